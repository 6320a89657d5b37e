package mutate_test

import (
	"fmt"
	"reflect"
	"slices"
	"strings"
	"testing"

	"changeling/api"
	"changeling/decl"
	"changeling/infer"
	"changeling/mutate"
	"changeling/parse"
	"changeling/show"
)

// The chapter's words once more: sites are pointers into a program; what the catalogue makes of one is made in a copy of the program, at the site there that has the same number. All of it is asked for its types.

// site is what stands at a site: a binding, a pattern, a guard or an expression.
type site struct {
	bind        *api.Bind
	pat         *api.Pat
	guard, expr *api.Expr
}

func sitesOf(p *api.Program) []site {
	var l []site
	var ofBinds func([]api.Bind)
	var ofPats func([]api.Pat)
	var ofRhs func([]api.Rhs)
	var ofExpr func(*api.Expr)
	ofBinds = func(b []api.Bind) {
		for i := range b {
			l = append(l, site{bind: &b[i]})
			for _, c := range b[i].Clauses {
				ofPats(c.Pats)
				ofRhs(c.Rhs)
			}
		}
	}
	ofPats = func(p []api.Pat) {
		for i := range p {
			l = append(l, site{pat: &p[i]})
			ofPats(p[i].Args)
		}
	}
	ofRhs = func(r []api.Rhs) {
		for i := range r {
			if len(r[i].Guard) > 0 {
				l = append(l, site{guard: &r[i].Guard[0]})
				ofExpr(&r[i].Guard[0])
			}
			ofExpr(&r[i].Body)
		}
	}
	ofExpr = func(e *api.Expr) {
		l = append(l, site{expr: e})
		if e.Kind == api.ELet {
			ofBinds(e.Binds)
		}
		for i := range e.Args {
			ofExpr(&e.Args[i])
		}
		for i := range e.Alts {
			l = append(l, site{pat: &e.Alts[i].Pat})
			ofPats(e.Alts[i].Pat.Args)
			ofRhs(e.Alts[i].Rhs)
		}
	}
	ofBinds(p.Binds)
	return l
}

// entry is what an operator does at a site.
type entry struct {
	op int
	do func(site)
}

// lists are the entries that swap or drop clauses or alternatives.
func lists[T any](many, swap, drop int, of func(site) *[]T) []entry {
	var l []entry
	for i := range many - 1 {
		l = append(l, entry{swap, func(s site) {
			x := *of(s)
			x[i], x[i+1] = x[i+1], x[i]
		}})
	}
	if many >= 2 {
		for i := range many {
			l = append(l, entry{drop, func(s site) { *of(s) = slices.Delete(*of(s), i, i+1) }})
		}
	}
	return l
}

func ofPat(p api.Pat) []entry {
	by := func(op int, q api.Pat) entry { return entry{op, func(s site) { *s.pat = q }} }
	var l []entry
	if p.Kind == api.PInt || p.Kind == api.PCon {
		l = append(l, by(api.MWild, api.Pat{Kind: api.PAny}))
	}
	if p.Kind == api.PInt {
		l = append(l, by(api.MPatNext, api.Pat{Kind: api.PInt, N: p.N + 1}), by(api.MPatPrev, api.Pat{Kind: api.PInt, N: p.N - 1}))
	}
	return l
}

func negate(e *api.Expr) {
	*e = api.Expr{Kind: api.EIf, Args: []api.Expr{*e, {Kind: api.ECon, Name: "False"}, {Kind: api.ECon, Name: "True"}}}
}

func ofExpr(d *decl.Table, e api.Expr) []entry {
	var l []entry
	by := func(op int, f api.Expr) { l = append(l, entry{op, func(s site) { *s.expr = f }}) }
	switch e.Kind {
	case api.EIf:
		l = append(l, entry{api.MGuard, func(s site) { negate(&s.expr.Args[0]) }})
	case api.ECase:
		l = lists(len(e.Alts), api.MSwapAlt, api.MDropAlt, func(s site) *[]api.Alt { return &s.expr.Alts })
	case api.ECon:
		own, _ := d.Con(e.Name)
		for _, c := range d.All() {
			if c.Data == own.Data && c.Name != own.Name {
				by(api.MCon, api.Expr{Kind: api.ECon, Name: c.Name})
			}
		}
	case api.EInt:
		by(api.MNext, api.Expr{Kind: api.EInt, N: e.N + 1})
		by(api.MPrev, api.Expr{Kind: api.EInt, N: e.N - 1})
		by(api.MZero, api.Expr{Kind: api.EInt})
	case api.EVar:
		for kind, names := range []string{"+ - * / %", "== /= < <= > >="} {
			if among := strings.Fields(names); slices.Contains(among, e.Name) {
				for _, name := range among {
					if name != e.Name {
						by(api.MArith+kind, api.Expr{Kind: api.EVar, Name: name})
					}
				}
			}
		}
	}
	return l
}

func entries(d *decl.Table, s site) []entry {
	switch {
	case s.bind != nil:
		return lists(len(s.bind.Clauses), api.MSwapClause, api.MDropClause, func(s site) *[]api.Clause { return &s.bind.Clauses })
	case s.pat != nil:
		return ofPat(*s.pat)
	case s.guard != nil:
		return []entry{{api.MGuard, func(s site) { negate(s.guard) }}}
	}
	return ofExpr(d, *s.expr)
}

// copied is a value in new memory.
func copied(v reflect.Value) reflect.Value {
	c := reflect.New(v.Type()).Elem()
	switch v.Kind() {
	case reflect.Slice:
		if v.Len() > 0 {
			c.Set(reflect.MakeSlice(v.Type(), v.Len(), v.Len()))
		}
		for i := range v.Len() {
			c.Index(i).Set(copied(v.Index(i)))
		}
	case reflect.Struct:
		for i := range v.NumField() {
			c.Field(i).Set(copied(v.Field(i)))
		}
	default:
		c.Set(v)
	}
	return c
}

// spots are all fields, parts and parts of parts of a value that can be set.
func spots(v reflect.Value) []reflect.Value {
	l := []reflect.Value{v}
	switch v.Kind() {
	case reflect.Slice:
		for i := range v.Len() {
			l = append(l, spots(v.Index(i))...)
		}
	case reflect.Struct:
		for i := range v.NumField() {
			l = append(l, spots(v.Field(i))...)
		}
	}
	return l
}

// bare is a program's text without places.
func bare(p api.Program) string { return fmt.Sprint(parse.Strip(p)) }

// modelled holds what is answered of a program that has types against the chapter's words, and tells its rewrites, and its mutants, if they are not too many.
func modelled(t *testing.T, p api.Program) ([]api.Mutant, []api.Mutant) {
	t.Helper()
	d, _ := decl.New(p.Datas)
	schemes, _ := infer.Schemes(p)
	var rewrites, mutants []api.Mutant
	seen := map[string]bool{bare(p): true}
	l := sitesOf(&p)
	for i, s := range l {
		for _, e := range entries(d, s) {
			q := copied(reflect.ValueOf(p)).Interface().(api.Program)
			e.do(sitesOf(&q)[i])
			m := api.Mutant{Site: i, Op: e.op, Program: q}
			rewrites = append(rewrites, m)
			text := bare(q)
			if got, f := infer.Schemes(q); f.Err == api.OK && fmt.Sprint(got) == fmt.Sprint(schemes) && !seen[text] {
				mutants = append(mutants, m)
				seen[text] = true
			}
		}
	}
	wanted := api.Fault{}
	if len(mutants) > api.MaxMutants {
		mutants, wanted = nil, api.Fault{Err: api.ErrLong, At: api.Pos{Line: 1, Col: 1}}
	}
	all, fault := mutate.All(p)
	if fault != wanted || mutate.Sites(p) != len(l) || fmt.Sprint(mutate.Rewrites(p)) != fmt.Sprint(rewrites) || fmt.Sprint(all) != fmt.Sprint(mutants) {
		t.Fatalf("%v, not %v, of\n%s", fault, wanted, show.Program(p))
	}
	return rewrites, mutants
}

// others is how many bindings differ from those of another program.
func others(a, b []api.Bind) int {
	n := 0
	for i := range a {
		if bare(api.Program{Binds: a[i : i+1]}) != bare(api.Program{Binds: b[i : i+1]}) {
			n++
		}
	}
	return n
}

// follows asks for what follows of a program's mutants.
func follows(t *testing.T, p api.Program) {
	t.Helper()
	schemes, _ := infer.Schemes(p)
	l, fault := mutate.All(p)
	seen := map[string]bool{show.Program(p): true}
	for _, m := range l {
		got, f := infer.Schemes(m.Program)
		text := show.Program(m.Program)
		switch {
		case f.Err != api.OK || !reflect.DeepEqual(got, schemes): // P21.4
			t.Fatal(f, text)
		case seen[text]: // P21.5
			t.Fatal("twice", text)
		case len(m.Program.Binds) != len(p.Binds) || others(m.Program.Binds, p.Binds) != 1: // P21.6
			t.Fatal("not one binding", text)
		case fmt.Sprint(m.Program.Datas, m.Program.Fixes) != fmt.Sprint(p.Datas, p.Fixes):
			t.Fatal("more than bindings", text)
		}
		seen[text] = true
	}
	// P21.7
	bared, f := mutate.All(parse.Strip(p))
	if f != fault || len(bared) != len(l) {
		t.Fatal("places", f, show.Program(p))
	}
	for i, m := range bared {
		if m.Site != l[i].Site || m.Op != l[i].Op || show.Program(m.Program) != show.Program(l[i].Program) {
			t.Fatal("places", lineOf(m))
		}
	}
}

// chain makes choices, always the same.
type chain uint32

func (c *chain) pick(n int) int {
	*c = *c*1664525 + 1013904223
	return int(*c>>16) % n
}

func (c *chain) one(l ...string) string { return l[c.pick(len(l))] }

// function is a name with what it takes and gives: Int (I), Bool (B), the data types T, L of Int (L) and S.
type function struct {
	name  string
	takes string
	gives byte
}

// making makes programs, as texts, of which all parts have the types that are asked of them.
type making struct {
	chain
	tops []function
}

const made = `data L a = N | C a (L a)
data T = X | Y | Z
data S = P Int | Q | R T S
id x = x
k x _ = x
`

func (m *making) kind() byte { return "IIIBBTLS"[m.pick(8)] }

// fields are what a constructor takes.
func fields(con string) string {
	return map[string]string{"C": "IL", "P": "I", "R": "TS"}[con]
}

func constructors(kind byte) []string {
	return map[byte][]string{'B': {"True", "False"}, 'T': {"X", "Y", "Z"}, 'L': {"N", "C"}, 'S': {"P", "Q", "R"}}[kind]
}

func (m *making) number() string {
	return m.one("0", "1", "2", "(-1)", "7", "9223372036854775807", "(-9223372036854775808)")
}

// name is one of those in scope.
func (m *making) name(kind byte, depth int, around []function) string {
	all := slices.Concat(around, around, m.tops)
	for range min(5, len(all)) {
		i := m.pick(len(all))
		if f := all[i]; f.gives == kind && (depth > 0 || f.takes == "") {
			return m.applied(f, depth, around)
		}
	}
	return ""
}

func (m *making) applied(f function, depth int, around []function) string {
	text := f.name
	for i := range len(f.takes) {
		text += " " + m.expr(f.takes[i], depth-1, around)
	}
	return "(" + text + ")"
}

func (m *making) expr(kind byte, depth int, around []function) string {
	if depth > 0 {
		switch m.pick(12) {
		case 0:
			return fmt.Sprintf("(if %s then %s else %s)", m.expr('B', depth-1, around), m.expr(kind, depth-1, around), m.expr(kind, depth-1, around))
		case 1:
			return m.choice(kind, depth-1, around)
		case 2:
			l, inner := m.binds("u v w", depth-1, around)
			return fmt.Sprintf("(let { %s } in %s)", l, m.expr(kind, depth-1, inner))
		case 3:
			of := m.kind()
			return fmt.Sprintf("((\\x _ -> %s) %s %s)", m.expr(kind, depth-1, more(around, function{"x", "", of})), m.expr(of, depth-1, around), m.expr(m.kind(), 0, around))
		case 4:
			return fmt.Sprintf("(id %s)", m.expr(kind, depth-1, around))
		case 5:
			return fmt.Sprintf("(k %s %s)", m.expr(kind, depth-1, around), m.expr(m.kind(), depth-1, around))
		case 6, 7:
			if kind == 'I' {
				return fmt.Sprintf("(%s %s %s)", m.expr('I', depth-1, around), m.one("+", "-", "*", "/", "%"), m.expr('I', depth-1, around))
			}
			if kind == 'B' {
				return fmt.Sprintf("(%s %s %s)", m.expr('I', depth-1, around), m.one("==", "/=", "<", "<=", ">", ">="), m.expr('I', depth-1, around))
			}
		}
	}
	if text := m.name(kind, depth, around); text != "" && m.pick(3) > 0 {
		return text
	}
	if kind == 'I' {
		return m.number()
	}
	con := m.one(constructors(kind)...)
	if depth <= 0 && strings.Contains("CR", con) {
		con = map[string]string{"C": "N", "R": "Q"}[con]
	}
	return m.applied(function{con, fields(con), kind}, depth, around)
}

// more are names with others around them, which they may hide.
func more(around []function, l ...function) []function {
	around = slices.DeleteFunc(slices.Clone(around), func(f function) bool {
		return slices.ContainsFunc(l, func(g function) bool { return f.name == g.name })
	})
	return append(around, l...)
}

func (m *making) choice(kind byte, depth int, around []function) string {
	of := m.kind()
	var alts []string
	for range 1 + m.pick(3) {
		var names []function
		p := m.pat(of, 2, &names)
		alts = append(alts, p+m.bodies(" -> ", kind, depth, more(around, names...)))
	}
	if m.pick(4) == 0 {
		alts = append(alts, alts[m.pick(len(alts))])
	}
	return fmt.Sprintf("(case %s of { %s })", m.expr(of, depth, around), strings.Join(alts, "; "))
}

// pat is a pattern; it has names that are not among those that are there, and adds them.
func (m *making) pat(kind byte, depth int, names *[]function) string {
	if n := m.pick(4); depth == 0 || n == 0 {
		name := m.one("x", "y", "z", "u", "v")
		if slices.ContainsFunc(*names, func(f function) bool { return f.name == name }) {
			return "_"
		}
		*names = append(*names, function{name, "", kind})
		return name
	}
	if kind == 'I' {
		return m.number()
	}
	con := m.one(constructors(kind)...)
	text := con
	for _, f := range []byte(fields(con)) {
		text += " " + m.pat(f, depth-1, names)
	}
	return "(" + text + ")"
}

func (m *making) bodies(sign string, kind byte, depth int, around []function) string {
	if m.pick(3) > 0 {
		return sign + m.expr(kind, depth, around)
	}
	text := ""
	for range 1 + m.pick(2) {
		text += " | " + m.expr('B', min(depth, 1), around) + sign + m.expr(kind, depth, around)
	}
	return text
}

// binds are bindings of some of names, and what is in scope with them.
func (m *making) binds(names string, depth int, around []function) (string, []function) {
	var l []function
	for name := range strings.FieldsSeq(names) {
		f := function{name: name, gives: m.kind()}
		for m.pick(2) == 0 {
			f.takes += string(m.kind())
		}
		if len(l) == 0 || m.pick(3) > 0 {
			l = append(l, f)
		}
	}
	inner := more(around, l...)
	if m.tops == nil {
		m.tops, inner = l, nil
	}
	var clauses []string
	for _, f := range l {
		var own []string
		for n := 1 + m.pick(3); len(own) < n && (f.takes != "" || len(own) == 0); {
			own = append(own, m.clause(f, depth, inner))
		}
		if f.takes != "" && m.pick(4) == 0 {
			own = append(own, own[m.pick(len(own))])
		}
		clauses = append(clauses, own...)
	}
	return strings.Join(clauses, "; "), inner
}

func (m *making) clause(f function, depth int, around []function) string {
	text := f.name
	var names []function
	for _, kind := range []byte(f.takes) {
		text += " " + m.pat(kind, 2, &names)
	}
	return text + m.bodies(" = ", f.gives, depth, more(around, names...))
}

// program is a program that has types and is not too long.
func (m *making) program(t *testing.T) api.Program {
	t.Helper()
	for {
		m.tops = nil
		text, _ := m.binds("f g h", 1+m.pick(3), nil)
		p, f := parse.Program(made + text)
		if f.Err == api.ErrLong || len(text) > 400 {
			continue
		}
		if f.Err != api.OK {
			t.Fatal(f, text)
		}
		if _, f := infer.Program(p); f.Err != api.OK {
			t.Fatal(f, text)
		}
		return p
	}
}

// P21.1, P21.2, P21.4, P21.5, P21.6, P21.7, on many programs and what the catalogue makes of them.

func TestManyPrograms(t *testing.T) {
	t.Parallel()
	m := &making{chain: 1}
	rewrites, mutants := map[int]int{}, map[int]int{}
	for range 110 {
		p := m.program(t)
		for range 3 {
			l, some := modelled(t, p)
			follows(t, p)
			for _, x := range l {
				rewrites[x.Op]++
			}
			for _, x := range some {
				mutants[x.Op]++
			}
			// What has types is gone on with, whatever schemes it has.
			l = slices.DeleteFunc(l, func(x api.Mutant) bool { return m.pick(2) == 0 })
			i := slices.IndexFunc(l, func(x api.Mutant) bool {
				_, f := infer.Program(x.Program)
				return f.Err == api.OK && m.pick(9) == 0
			})
			if i < 0 {
				break
			}
			p = l[i].Program
		}
	}
	for op := api.MSwapClause; op <= api.MRel; op++ {
		if rewrites[op] < 100 || mutants[op] < 80 {
			t.Error(mutate.Name(op), rewrites[op], mutants[op])
		}
	}
}
