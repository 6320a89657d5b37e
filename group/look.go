package group

import "slices"

// thing is what a look has found out about one.
type thing struct {
	at    int  // when it was come to: 0, if not yet
	back  int  // the first thing that is come back to from it
	next  int  // the place of the use that is looked into next
	whole bool // its group is known
}

// look finds groups.
type look struct {
	uses   [][]int
	things []thing
	count  int
	path   []int // a stack of what is still to be looked into, each one used by the one below it
	open   []int // a stack of things whose groups are not known yet
	groups [][]int
}

// found are the groups, the one with the least number first.
func found(uses [][]int) [][]int {
	l := &look{uses: uses, things: make([]thing, len(uses))}
	for n := range uses {
		if l.things[n].at == 0 {
			l.from(n)
		}
	}
	slices.SortFunc(l.groups, func(a, b []int) int { return a[0] - b[0] })
	return l.groups
}

func (l *look) enter(n int) {
	l.count++
	l.things[n] = thing{at: l.count, back: l.count}
	l.path = append(l.path, n)
	l.open = append(l.open, n)
}

// from finds the groups of a thing, and of all that it needs.
func (l *look) from(n int) {
	l.enter(n)
deeper:
	for len(l.path) > 0 {
		n := l.path[len(l.path)-1]
		x := &l.things[n]
		for x.next < len(l.uses[n]) {
			used := l.uses[n][x.next]
			x.next++
			y := l.things[used]
			if y.at == 0 {
				l.enter(used)
				continue deeper
			}
			if !y.whole {
				x.back = min(x.back, y.at)
			}
		}
		l.leave(n)
	}
}

// leave is done with the thing on the top of the path: what it comes back to, the one below it comes back to as well. One that comes back to none ahead of it has its group above it.
func (l *look) leave(n int) {
	x := l.things[n]
	l.path = l.path[:len(l.path)-1]
	if len(l.path) > 0 {
		below := &l.things[l.path[len(l.path)-1]]
		below.back = min(below.back, x.back)
	}
	if x.back < x.at {
		return
	}
	start := slices.Index(l.open, n)
	group := slices.Sorted(slices.Values(l.open[start:]))
	l.open = l.open[:start]
	for _, n := range group {
		l.things[n].whole = true
	}
	l.groups = append(l.groups, group)
}

// ordered are groups, the one with the least number first, in the order in which their needs stand.
func ordered(uses [][]int, groups [][]int) [][]int {
	missing, users := needs(uses, groups)
	var l [][]int
next:
	for len(l) < len(groups) {
		for g := range groups {
			if missing[g] != 0 {
				continue
			}
			missing[g]-- // it stands now: it is not to be taken again
			l = append(l, groups[g])
			for _, user := range users[g] {
				missing[user]--
			}
			continue next
		}
	}
	return l
}

// needs are how many other groups each group uses, and the groups that use each.
func needs(uses [][]int, groups [][]int) (missing []int, users [][]int) {
	of := make([]int, len(uses))
	for g, group := range groups {
		for _, n := range group {
			of[n] = g
		}
	}
	missing, users = make([]int, len(groups)), make([][]int, len(groups))
	for g, group := range groups {
		seen := make([]bool, len(groups))
		seen[g] = true
		for _, n := range group {
			for _, used := range uses[n] {
				if h := of[used]; !seen[h] {
					seen[h] = true
					missing[g]++
					users[h] = append(users[h], g)
				}
			}
		}
	}
	return missing, users
}
