// Package version is layer 1: see shared/doc/01-version.md.
package version

import (
	"cmp"
	"iter"
	"slices"
	"strings"

	"cooper/api"
)

// The ranks of what may stand at a place of a version: the less one stands ahead.
const (
	wordRank = iota
	endRank
	numberRank
)

// numberDigits is how many digits MaxNumber has.
const numberDigits = 9

// May tells whether a text is a version.
func May(s string) bool {
	if len(s) > api.MaxVersion {
		return false
	}
	n := 0
	for part := range parts(s) {
		n++
		if n > api.MaxParts || !isWord(part) && !isNumber(part) {
			return false
		}
	}
	return true
}

// Compare is how two texts stand to each other.
func Compare(a, b string) int {
	if !May(a) || !May(b) {
		return rankOfText(a) - rankOfText(b)
	}
	others := Parts(b)
	for part := range parts(a) {
		other := ""
		if len(others) > 0 {
			other, others = others[0], others[1:]
		}
		if n := comparePart(part, other); n != 0 {
			return n
		}
	}
	if len(others) > 0 {
		return comparePart("", others[0])
	}
	return 0
}

// Parts are a version's parts.
func Parts(s string) []string {
	if !May(s) {
		return nil
	}
	return slices.Collect(parts(s))
}

// Newest are texts, the one that stands last first.
func Newest(l []string) []string {
	out := slices.Clone(l)
	slices.SortStableFunc(out, func(a, b string) int { return Compare(b, a) })
	return out
}

// parts hands out what stands between the full stops of a text.
func parts(s string) iter.Seq[string] {
	return func(yield func(string) bool) {
		rest, more := s, true
		for more {
			var part string
			part, rest, more = strings.Cut(rest, ".")
			if !yield(part) {
				return
			}
		}
	}
}

func isWord(part string) bool {
	for i := range len(part) {
		if part[i] < 'a' || part[i] > 'z' {
			return false
		}
	}
	return part != ""
}

func isNumber(part string) bool {
	for i := range len(part) {
		if part[i] < '0' || part[i] > '9' {
			return false
		}
	}
	return part == "0" || part != "" && len(part) <= numberDigits && part[0] != '0'
}

// rankOfText sets what is no version ahead of all versions.
func rankOfText(s string) int {
	if May(s) {
		return 1
	}
	return 0
}

// rankOfPart is the rank of a part; an empty one is the end.
func rankOfPart(part string) int {
	switch {
	case part == "":
		return endRank
	case isWord(part):
		return wordRank
	}
	return numberRank
}

func comparePart(a, b string) int {
	rank := rankOfPart(a)
	if n := cmp.Compare(rank, rankOfPart(b)); n != 0 {
		return n
	}
	// Without noughts ahead, of two numbers that with fewer digits is the less one.
	if rank == numberRank && len(a) != len(b) {
		return cmp.Compare(len(a), len(b))
	}
	return strings.Compare(a, b)
}
