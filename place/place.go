// Package place tells where between.
package place

import (
	"strings"

	"leafbinder/api"
)

// Check tells what is wrong with a place.
func Check(p string) error {
	if len(p) > api.MaxPlace {
		return api.ErrFull
	}
	if len(p) < 2 || !areLetters(p) {
		return api.ErrSyntax
	}
	if p[len(p)-2] == 'a' || !isAuthor(authorOf(p)) {
		return api.ErrSyntax
	}
	return nil
}

// Who is the author of a place.
func Who(p string) (int, error) {
	if err := Check(p); err != nil {
		return 0, err
	}
	return authorOf(p), nil
}

// Between two places, one of an author.
func Between(a, b string, who int) (string, error) {
	if !isAuthor(who) {
		return "", api.ErrRange
	}
	stems, err := shortestStems(a, b)
	if err != nil {
		return "", err
	}
	return stems[(len(stems)-1)/4] + string(rune('a'+who)), nil
}

// Room tells how long a place between two others is at least.
func Room(a, b string) (int, error) {
	stems, err := shortestStems(a, b)
	if err != nil {
		return 0, err
	}
	return len(stems[0]) + 1, nil
}

func areLetters(p string) bool {
	for i := range len(p) {
		if p[i] < 'a' || p[i] > 'z' {
			return false
		}
	}
	return true
}

func isAuthor(who int) bool { return who >= 1 && who <= api.MaxWho }

func authorOf(p string) int { return int(p[len(p)-1]) - 'a' }

// checkSides tells what is wrong with two places between which one is asked for.
func checkSides(a, b string) error {
	if a != "" {
		if err := Check(a); err != nil {
			return err
		}
	}
	if b != "" {
		if err := Check(b); err != nil {
			return err
		}
	}
	if a != "" && b != "" && a >= b {
		return api.ErrShape
	}
	return nil
}

// shortestStems gives, in order, the shortest texts that make a place between
// a and b, whichever author's letter is set behind them; without an error
// there is at least one.
func shortestStems(a, b string) ([]string, error) {
	if err := checkSides(a, b); err != nil {
		return nil, err
	}
	open := []string{""}
	// A stem leaves room for the author's letter, so it is below MaxPlace.
	for range api.MaxPlace - 1 {
		var stems []string
		stems, open = grow(open, a, b)
		if len(stems) > 0 {
			return stems, nil
		}
	}
	return nil, api.ErrDeep
}

// grow sets each letter behind each open text: the stems among what comes, and
// what a longer stem may begin with. Both keep the order. As long as no stem is
// found, only beginnings of a or b, and a few texts that end in a, stay open.
func grow(open []string, a, b string) (stems, longer []string) {
	for _, head := range open {
		for c := 'a'; c <= 'z'; c++ {
			t := head + string(c)
			if isStem(t, a, b) {
				stems = append(stems, t)
			}
			if mayGrow(t, a, b) {
				longer = append(longer, t)
			}
		}
	}
	return stems, longer
}

func isStem(t, a, b string) bool {
	return isInside(t, a, b) && t[len(t)-1] != 'a' && !strings.HasPrefix(b, t)
}

// mayGrow: a beginning of a is not above it, but a longer text from it on may
// be; a beginning of b is inside, or is one of a, too.
func mayGrow(t, a, b string) bool {
	return isInside(t, a, b) || strings.HasPrefix(a, t)
}

func isInside(t, a, b string) bool {
	return t > a && (b == "" || t < b)
}
