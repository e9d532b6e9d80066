package tsdb

import (
	"slices"

	"gauge/api"
	"gauge/label"
	"gauge/wal"
)

// A batch is points, on their way into the log.
type batch struct {
	db   *DB
	sets [][]api.Label // those that the head does not have, as their ids will rise
	rows []api.Row
}

// add takes a further point, if it may be.
func (b *batch) add(p api.Point) api.Errno {
	if e := label.Check(p.Labels); e != api.OK {
		return e
	}
	id := b.id(p.Labels)
	row := api.Row{Id: id, Sample: p.Sample}
	// Of a single row of an id that may be the log tells nothing but whether
	// its sample may be.
	if e := wal.Check(api.Rec{Kind: api.RecRows, Rows: []api.Row{row}}); e != api.OK {
		return e
	}
	further := id == b.db.head.Len()+len(b.sets)
	switch {
	case further && id >= api.MaxSeries:
		return api.ErrBig
	case b.db.head.Count()+len(b.rows) >= api.MaxPoints:
		return api.ErrBig
	case b.reaches(row, p.Labels):
		return api.ErrOrder
	}
	if further {
		b.sets = append(b.sets, p.Labels)
	}
	b.rows = append(b.rows, row)
	return api.OK
}

// id tells the id that a label set has, or will have: the head's, or behind
// them that of one of the points ahead, or the next one.
func (b *batch) id(set []api.Label) int {
	if id, e := b.db.head.Id(set); e == api.OK {
		return id
	}
	at := slices.IndexFunc(b.sets, func(l []api.Label) bool { return label.Compare(l, set) == 0 })
	if at < 0 {
		at = len(b.sets)
	}
	return b.db.head.Len() + at
}

// reaches tells whether a row's time is not above the last time of its label
// set, as if the rows ahead were done.
func (b *batch) reaches(row api.Row, set []api.Label) bool {
	for _, ahead := range slices.Backward(b.rows) {
		if ahead.Id == row.Id {
			return ahead.Sample.T >= row.Sample.T
		}
	}
	return b.db.reaches(set, row.Sample.T)
}

// A cut says which samples are to be gone.
type cut struct {
	low, high int                        // none is at other times
	meant     func(set []api.Label) bool // whether a label set may lose some
	stays     func(s api.Sample) bool    // whether a sample of such a one stays
}

// cutOf tells the cut of the samples from low to high of label sets.
func cutOf(low, high int, meant func(set []api.Label) bool) cut {
	stays := func(s api.Sample) bool { return s.T < low || s.T > high }
	return cut{low: low, high: high, meant: meant, stays: stays}
}

// ids tells the series that have some of a cut.
func (k cut) ids(h holder) []int {
	var ids []int
	for id := range h.Len() {
		// There are no errors here: the id is there.
		set, _ := h.Labels(id)
		if !k.meant(set) {
			continue
		}
		if some, _ := h.Select(id, k.low, k.high); len(some) > 0 {
			ids = append(ids, id)
		}
	}
	return ids
}

// left tells what a cut leaves of series that are its own.
func (k cut) left(l []api.Series) []api.Series {
	gone := func(s api.Sample) bool { return !k.stays(s) }
	var left []api.Series
	for _, s := range l {
		if k.meant(s.Labels) {
			s.Samples = slices.DeleteFunc(s.Samples, gone)
		}
		if len(s.Samples) > 0 {
			left = append(left, s)
		}
	}
	return left
}

// A gathering is series that are put together of pieces.
type gathering struct {
	places map[string]int // by the labels' texts, of which no two sets have one
	series []api.Series
}

// gather tells a gathering without series.
func gather() *gathering {
	return &gathering{places: map[string]int{}}
}

// add lays samples behind those of a label set; of one without any it takes no
// note.
func (g *gathering) add(set []api.Label, some []api.Sample) {
	if len(some) == 0 {
		return
	}
	text := label.Print(set)
	at, there := g.places[text]
	if !there {
		at = len(g.series)
		g.places[text] = at
		g.series = append(g.series, api.Series{Labels: set})
	}
	g.series[at].Samples = append(g.series[at].Samples, some...)
}

// sorted tells the series, by rising label sets.
func (g *gathering) sorted() []api.Series {
	slices.SortFunc(g.series, func(a, b api.Series) int { return label.Compare(a.Labels, b.Labels) })
	return g.series
}
