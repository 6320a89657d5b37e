package code_test

import (
	"testing"

	"changeling/api"
)

// P17.4: what is so on each way through a code

// asks is how many things an instruction needs on the stack, and how many more there are behind it. Below what stands on it is the root, where there is one.
func asks(i api.Instr, root int) (int, int) {
	switch i.Op {
	case api.IPush:
		return i.K + 1, 1
	case api.IGlob, api.IInt:
		return 0, 1
	case api.IApply, api.IPrim:
		return 2, -1
	case api.IUpdate:
		return i.K + 2 - root, -1
	case api.IPop:
		return i.K, -i.K
	case api.ISlide:
		return i.K + 1, -i.K
	case api.IAlloc:
		return 0, i.K
	case api.IEval, api.ICase:
		return 1, 0
	case api.IPack:
		return i.K, 1 - i.K
	case api.ISplit:
		return 1, i.K - 1
	case api.IForce:
		return 1, -1
	}
	return 0, 0
}

// leads are the places to which an instruction leads.
func leads(i api.Instr, at int) []int {
	var l []int
	for _, j := range i.Jumps {
		l = append(l, j.To)
	}
	switch i.Op {
	case api.IUnwind, api.IFail, api.IAgain:
		return nil
	case api.IJump:
		return []int{i.K}
	case api.IPick:
		return append(l, i.K)
	case api.ICase:
		if i.K != -1 {
			l = append(l, i.K)
		}
		return l
	}
	return []int{at + 1}
}

// walk goes all ways through a code, from so many things on the stack on; below 0: there is no root, and nothing on it.
func walk(t *testing.T, c api.Code, depth int) {
	t.Helper()
	root := 1
	if depth < 0 {
		root, depth = 0, 0
	}
	depths := make([]int, len(c.Ops))
	for i := range depths {
		depths[i] = -1
	}
	bad := func(why string, at int) {
		t.Helper()
		if len(c.Ops) > 200 {
			c.Ops = c.Ops[:200]
		}
		t.Fatalf("%s at %d: %s", why, at, codeText(c))
	}
	if len(c.Ops) == 0 {
		bad("nothing", 0)
	}
	depths[0] = depth
	for at, i := range c.Ops {
		for _, to := range leads(i, at) {
			if to <= at || to >= len(c.Ops) {
				bad("no way forward", at)
			}
		}
		d := depths[at]
		if d < 0 {
			continue // behind what fails
		}
		needs, more := asks(i, root)
		if i.K < 0 && (i.Op != api.ICase || i.K < -1) || needs > d {
			bad("too little", at)
		}
		for _, to := range leads(i, at) {
			if depths[to] >= 0 && depths[to] != d+more {
				bad("unlike depths", at)
			}
			depths[to] = d + more
		}
		if i.Op == api.IUnwind && (d != 0 || root == 0) || i.Op == api.IAgain && (root == 1 || i.K < 0 || i.K >= at) {
			bad("no end", at)
		}
	}
	again := len(c.Ops) - 3
	if root == 0 && (again < 1 || lines(c.Ops[again:]) != line(api.Instr{Op: api.IEval})+"; force; "+line(api.Instr{Op: api.IAgain, K: again}) || depths[again] != 1) {
		bad("no beginning", 0)
	}
}
