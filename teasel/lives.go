package teasel

import "walkmill/api"

// lives is for how many passes each row lasts.
type lives map[api.TeaselRow]int

// lasts returns for how many passes a row is not blunt in a truth.
func (f frames) lasts(x truth, r api.TeaselRow, blunt int) int {
	sharp := f[r.Frame].Rows[r.Row]
	for pass := range api.MaxTeaselLife {
		if sharp < blunt {
			return pass
		}
		sharp -= x[r.Frame]
	}
	return api.MaxTeaselLife
}

// lives returns for how many passes each row lasts in a truth.
func (f frames) lives(x truth, blunt int) lives {
	l := lives{}
	for _, r := range f.list() {
		l[r] = f.lasts(x, r, blunt)
	}
	return l
}

// apiece returns for how many passes the frames last together, each by itself.
func (f frames) apiece(l lives) int {
	passes := 0
	for number, frame := range f {
		least := api.MaxTeaselLife
		for row := range frame.Rows {
			least = min(least, l[api.TeaselRow{Frame: number, Row: row}])
		}
		passes += least
	}
	return passes
}

// places returns how many places in so many passes the rows can fill, none of them two in one pass.
func (l lives) places(passes int) int {
	sum := 0
	for _, life := range l {
		sum += min(life, passes)
	}
	return sum
}

// anew returns how many passes there can be if rows are put together anew before each.
func (f frames) anew(l lives) int {
	passes := 0
	// Places that rows can fill are enough, as schedule shows, and those of fewer passes are filled more easily.
	for l.places(passes+1) >= f.rows()*(passes+1) {
		passes++
	}
	return passes
}

// schedule returns the rows of each of as many passes as there can be.
func (f frames) schedule(l lives) [][]api.TeaselRow {
	passes := f.anew(l)
	list := make([][]api.TeaselRow, passes)
	place, places := 0, passes*f.rows()
	for _, r := range f.list() {
		// A row goes round the passes from where the one before it ended: so it comes back to none of them, and all passes are filled alike.
		for range min(l[r], passes, places-place) {
			pass := place % passes
			list[pass] = append(list[pass], r)
			place++
		}
	}
	return list
}
