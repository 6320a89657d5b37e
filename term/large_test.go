package term_test

import (
	"slices"
	"strings"
	"testing"

	"changeling/api"
	"changeling/decl"
	"changeling/term"
)

// P1: deep and wide ones

// whole asks everything of a term that may be, but for what it is of a table.
func whole(t *testing.T, what string, x, other api.Term, size int, text string) {
	t.Helper()
	same(t, what, term.Right(x), true)
	same(t, what, term.Size(x), size)
	same(t, what, term.Same(x, x), true)
	same(t, what, term.Same(x, other), false)
	same(t, what, term.Text(x) == text, true)
	back, ok := term.Of(term.Expr(x))
	same(t, what, ok, true)
	same(t, what, term.Same(back, x), true)
	_, fault := term.Read(text)
	same(t, what, fault, api.Fault{Err: api.ErrLong, At: api.Pos{Line: 1, Col: 1}})
}

func TestDeep(t *testing.T) {
	t.Parallel()
	const deep = 1 << 16
	d := table(t, "data N = Z | S N\ndata L a = N | C a (L a)")
	for _, y := range []struct {
		within      func(api.Term) api.Term
		ahead, tail string
		ty          string
		size        int
	}{
		{func(x api.Term) api.Term { return c("S", x) }, "S (", "", "N", 1},
		{func(x api.Term) api.Term { return c("C", n(-1), x) }, "C (-1) (", "", "L Int", 3},
		{func(x api.Term) api.Term { return c("C", x, n(0)) }, "C (", " 0", "", 2},
	} {
		end := "Z"
		if y.ty != "N" {
			end = "N"
		}
		nested := func(end string) api.Term {
			x := c(end)
			for range deep {
				x = y.within(x)
			}
			return x
		}
		text := strings.Repeat(y.ahead, deep-1) + strings.TrimSuffix(y.ahead, "(") + end + y.tail + strings.Repeat(")"+y.tail, deep-1)
		whole(t, y.ahead, nested(end), nested("Y"), y.size*deep+1, text)
		core, ok := term.Core(d, nested(end))
		same(t, y.ahead, ok, true)
		same(t, y.ahead, core.Kind, api.CApp)
		if y.ty != "" {
			same(t, y.ahead, term.Fits(d, typ(t, y.ty), nested(end)), true)
		}
		same(t, y.ahead, term.Fits(d, typ(t, "L a"), nested("Y")), false)
		same(t, y.ahead, term.Right(nested("y")), false)
		same(t, y.ahead, term.Size(nested("y")), 0)
		for _, wrong := range []string{"y", "Y"} {
			_, ok = term.Core(d, nested(wrong))
			same(t, wrong, ok, false)
		}
	}
}

// An expression is as deep as a term is wide: of a term much wider than an expression may be deep there are still all.
func TestWide(t *testing.T) {
	t.Parallel()
	const wide = 1 << 20
	args := slices.Repeat([]api.Term{n(1), c("N")}, wide/2)
	x, other := api.Term{Con: "C", Args: args}, api.Term{Con: "C", Args: slices.Clone(args)}
	other.Args[wide-1] = n(1)
	whole(t, "wide", x, other, 1+wide/2*3, "C"+strings.Repeat(" 1 N", wide/2))
	other.Args[wide-1] = c("n")
	same(t, "wide", term.Right(other), false)
	same(t, "wide", term.Text(other), "")

	fields := slices.Repeat([]api.Type{{Kind: api.KCon, Name: "Int"}, {Kind: api.KCon, Name: "D"}}, wide/2)
	d, fault := decl.New([]api.Data{{Name: "D", Cons: []api.Constr{{Name: "N"}, {Name: "C", Fields: fields}}}})
	same(t, "wide", fault, api.Fault{})
	core, ok := term.Core(d, x)
	same(t, "wide", ok, true)
	for range wide {
		core = core.Args[0]
	}
	same(t, "wide", core, cCon("C", 1, wide))
	same(t, "wide", term.Fits(d, con("D"), x), true)
	other.Args[wide-1] = n(1)
	same(t, "wide", term.Fits(d, con("D"), other), false)
	other.Args = other.Args[1:]
	_, ok = term.Core(d, other)
	same(t, "wide", ok, false)
}

// Many brackets, all of them wide and deep: what is asked of a term takes no longer than it is large.
func TestBushy(t *testing.T) {
	t.Parallel()
	d := table(t, "data T = T T T | N")
	x := c("N")
	text := "N"
	for i := range 16 {
		x = c("T", x, x)
		if i > 0 {
			text = "(" + text + ")"
		}
		text = "T " + text + " " + text
	}
	other := c("T", x.Args[0], c("N"))
	whole(t, "bushy", x, other, 1<<17-1, text)
	_, ok := term.Core(d, x)
	same(t, "bushy", ok, true)
	same(t, "bushy", term.Fits(d, typ(t, "T"), x), true)
	same(t, "bushy", term.Fits(d, typ(t, "T"), c("T", x, n(0))), false)
}
