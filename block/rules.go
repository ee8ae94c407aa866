package block

import "praxinoscope/api"

// mostLevel is the greatest level; the least one is as far from 0.
const mostLevel = 127

// rules are those that a block must keep, each of them a method that tells the error of one that does not.
type rules struct {
	x     api.Block
	intra bool
}

// broken tells the error of the first rule that is not kept.
func (r rules) broken() api.Errno {
	for _, rule := range [...]func() api.Errno{r.code, r.many, r.pairs} {
		if err := rule(); err != api.OK {
			return err
		}
	}
	return api.OK
}

// code asks an intra block for a code of its first coefficient, any other one for none.
func (r rules) code() api.Errno {
	switch {
	case r.intra && !isCode(r.x.DC):
		return api.ErrLevel
	case !r.intra && r.x.DC != 0:
		return api.ErrArg
	}
	return api.OK
}

// many asks a block that is not intra for a pair: its bits could tell no other one.
func (r rules) many() api.Errno {
	if !r.intra && len(r.x.L) == 0 {
		return api.ErrArg
	}
	return api.OK
}

// pairs asks each pair for a level, and for a place of the block where it stands.
func (r rules) pairs() api.Errno {
	next := firstPlace(r.intra)
	for _, p := range r.x.L {
		switch {
		case !isLevel(p.Level):
			return api.ErrLevel
		case !fits(p.Run, next):
			return api.ErrRun
		}
		next += p.Run + 1
	}
	return api.OK
}

// isCode tells whether a number is the code of an intra block's first coefficient.
func isCode(n int) bool {
	return n >= 1 && n <= 255 && n != 128
}

// isLevel tells whether a number may be the level of a pair.
func isLevel(n int) bool {
	return n != 0 && n >= -mostLevel && n <= mostLevel
}

// firstPlace tells the place of the order from which on a block has pairs: an intra one's first coefficient has a code.
func firstPlace(intra bool) int {
	if intra {
		return 1
	}
	return 0
}

// fits tells whether the block has a place behind so many noughts from a next one on.
func fits(run, next int) bool {
	return run >= 0 && run < api.MaxPairs-next
}
