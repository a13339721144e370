package ship

import "taffrail/api"

// table of who serves whom: by the one that serves, then by the one that is served.
type table [api.MaxCategories][api.MaxCategories]bool

// whoServes of categories whose Higher were checked. They may lead in a circle still, round which a walk from one to the next would never end: so it goes by who stands between.
func whoServes(l []api.Category) table {
	var t table
	for i, c := range l {
		t[i][i] = true
		for _, h := range c.Higher {
			t[h][i] = true
		}
	}
	for between := range l {
		for a := range l {
			for b := range l {
				t[a][b] = t[a][b] || t[a][between] && t[between][b]
			}
		}
	}
	return t
}

// inCircle: do two serve one another, or does one stand in its own Higher? Just then one serves one of its own Higher, since each of those serves it.
func inCircle(l []api.Category) bool {
	serves := whoServes(l)
	return has(len(l), func(i int) bool {
		higher := l[i].Higher
		return has(len(higher), func(j int) bool { return serves[i][higher[j]] })
	})
}
