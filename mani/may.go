package mani

import (
	"slices"

	"remembrancer/api"
)

const (
	// maxN is the greatest number of a manifest: the greatest that its name has digits for.
	maxN = 99999
	// maxSegs is how many segments a part has at most.
	maxSegs = 1000
)

func numberMay(n int) bool {
	return within(n, 1, maxN)
}

func offsetsMay(offsets []int) bool {
	return within(len(offsets), 1, api.MaxSources) && !slices.ContainsFunc(offsets, offsetMayNot)
}

func offsetMayNot(offset int) bool {
	return !within(offset, 0, api.MaxRecs)
}

func partsMay(parts []api.Part) bool {
	return within(len(parts), 1, api.MaxTasks) && !slices.ContainsFunc(parts, partMayNot)
}

func partMayNot(p api.Part) bool {
	return !baseMay(p) || !segsMay(p)
}

// baseMay: only a part without a base begins at 0, since only there nothing is ahead of its segments.
func baseMay(p api.Part) bool {
	return within(p.At, 0, api.MaxSeq) && (p.At == 0) == (p.Base == "") && len(p.Base) <= api.MaxName
}

func segsMay(p api.Part) bool {
	if !within(p.Upto, p.At, api.MaxSeq) || len(p.Segs) > maxSegs {
		return false
	}
	if p.Upto == p.At && len(p.Segs) > 0 {
		return false
	}
	return !slices.ContainsFunc(p.Segs, segMayNot)
}

func segMayNot(name string) bool {
	return !within(len(name), 1, api.MaxName)
}

func within(n, least, most int) bool {
	return least <= n && n <= most
}
