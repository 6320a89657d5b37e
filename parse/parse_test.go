package parse_test

import (
	"fmt"
	"strings"
	"testing"

	"changeling/api"
	"changeling/parse"
)

// What is read is told in brackets: what it is, its place (of those that have one), its name or number, its parts.

func tell(what string, at api.Pos, parts ...string) string {
	if at != (api.Pos{}) {
		what = fmt.Sprintf("%s@%d,%d", what, at.Line, at.Col)
	}
	if len(parts) == 0 {
		return what
	}
	return "(" + what + " " + strings.Join(parts, " ") + ")"
}

// tellAll tells each of a list; what ought to be zero and isn't is told, too.
func tellAll[T any](l []T, f func(T) string) []string {
	var all []string
	for _, x := range l {
		all = append(all, f(x))
	}
	return all
}

func tellType(t api.Type) string {
	what := map[int]string{api.KVar: "var", api.KCon: "con", api.KFun: "fun"}[t.Kind] + ":" + t.Name
	if t.N != 0 {
		what += fmt.Sprint("!N", t.N)
	}
	return tell(what, api.Pos{}, tellAll(t.Args, tellType)...)
}

func tellPat(p api.Pat) string {
	what := map[int]string{api.PAny: "any", api.PVar: "var", api.PInt: "int", api.PCon: "con"}[p.Kind] + ":" + p.Name
	if p.Kind == api.PInt || p.N != 0 {
		what += fmt.Sprint(p.N)
	}
	return tell(what, p.At, tellAll(p.Args, tellPat)...)
}

func tellRhs(r api.Rhs) string {
	if len(r.Guard) == 0 {
		return "= " + tellExpr(r.Body)
	}
	return "| " + strings.Join(tellAll(r.Guard, tellExpr), " ") + " = " + tellExpr(r.Body)
}

func tellAlt(a api.Alt) string {
	return "[" + tellPat(a.Pat) + " " + strings.Join(tellAll(a.Rhs, tellRhs), " ") + "]"
}

func tellClause(c api.Clause) string {
	return "[" + strings.Join(append(tellAll(c.Pats, tellPat), tellAll(c.Rhs, tellRhs)...), " ") + "]"
}

func tellBind(b api.Bind) string {
	return tell("bind:"+b.Name, b.At, tellAll(b.Clauses, tellClause)...)
}

func tellExpr(e api.Expr) string {
	what := map[int]string{api.EVar: "var", api.ECon: "con", api.EInt: "int", api.EApp: "app", api.ELam: "lam", api.ELet: "let", api.ECase: "case", api.EIf: "if"}[e.Kind] + ":" + e.Name
	if e.Kind == api.EInt || e.N != 0 {
		what += fmt.Sprint(e.N)
	}
	parts := append(tellAll(e.Binds, tellBind), e.Params...)
	parts = append(parts, tellAll(e.Args, tellExpr)...)
	return tell(what, e.At, append(parts, tellAll(e.Alts, tellAlt)...)...)
}

func tellConstr(c api.Constr) string {
	return tell(c.Name, c.At, tellAll(c.Fields, tellType)...)
}

func tellData(d api.Data) string {
	return tell("data:"+d.Name, d.At, append(append([]string{}, d.Params...), tellAll(d.Cons, tellConstr)...)...)
}

func tellFix(f api.Fix) string {
	return tell(fmt.Sprintf("fix:%s:%d:%d", f.Op, f.Assoc, f.Level), f.At)
}

func tellProgram(p api.Program) string {
	l := append(tellAll(p.Datas, tellData), tellAll(p.Fixes, tellFix)...)
	return strings.Join(append(l, tellAll(p.Binds, tellBind)...), "\n")
}

// read is a source's program, and readExpr its expression, where they must be.
func read(t *testing.T, src string) api.Program {
	t.Helper()
	p, f := parse.Program(src)
	if f != (api.Fault{}) {
		t.Fatalf("Program(%q): %v", src, f)
	}
	return p
}

func readExpr(t *testing.T, src string, fixes ...api.Fix) api.Expr {
	t.Helper()
	e, f := parse.Expr(src, fixes)
	if f != (api.Fault{}) {
		t.Fatalf("Expr(%q): %v", src, f)
	}
	return e
}

func empty(p api.Program) bool {
	return len(p.Datas) == 0 && len(p.Fixes) == 0 && len(p.Binds) == 0
}

func emptyExpr(e api.Expr) bool {
	return e.Kind == 0 && e.Name == "" && e.N == 0 && e.At == (api.Pos{}) && len(e.Params)+len(e.Args)+len(e.Alts)+len(e.Binds) == 0
}

func fault(err api.Errno, line, col int) api.Fault {
	return api.Fault{Err: err, At: api.Pos{Line: line, Col: col}}
}

// fails asks for just this fault, and nothing beside it.
func fails(t *testing.T, src string, want api.Fault) {
	t.Helper()
	if p, f := parse.Program(src); f != want || !empty(p) {
		t.Errorf("Program(%.300q): %v, %v, not %v", src, tellProgram(p), f, want)
	}
}

func failsExpr(t *testing.T, src string, fixes []api.Fix, want api.Fault) {
	t.Helper()
	if e, f := parse.Expr(src, fixes); f != want || !emptyExpr(e) {
		t.Errorf("Expr(%.300q, %v): %v, %v, not %v", src, fixes, tellExpr(e), f, want)
	}
}

// P6.1: what comes of it, places and all.

func TestPrograms(t *testing.T) {
	for src, want := range map[string]string{
		"":                "",
		"-- nothing":      "",
		"{}":              "",
		"{ ; ;; }":        "",
		" \n ;":           "",
		"f x = x + 1":     "(bind:f@1,1 [var:x@1,3 = (app:@1,9 (app:@1,9 var:+@1,9 var:x@1,7) int:1@1,11)])",
		"f x = x + 1 * 2": "(bind:f@1,1 [var:x@1,3 = (app:@1,9 (app:@1,9 var:+@1,9 var:x@1,7) (app:@1,13 (app:@1,13 var:*@1,13 int:1@1,11) int:2@1,15))])",
		"f x = x x":       "(bind:f@1,1 [var:x@1,3 = (app:@1,7 var:x@1,7 var:x@1,9)])",
		"f = g a (b c) 1": "(bind:f@1,1 [= (app:@1,5 (app:@1,5 (app:@1,5 var:g@1,5 var:a@1,7) (app:@1,10 var:b@1,10 var:c@1,12)) int:1@1,15)])",
		"(+) a b = (-) a": "(bind:+@1,2 [var:a@1,5 var:b@1,7 = (app:@1,12 var:-@1,12 var:a@1,15)])",
		"( + ) = 1":       "(bind:+@1,3 [= int:1@1,9])",
		"f 0 = 1\nf _ = ( - 2 )\ng = 1\nf = 2": "(bind:f@1,1 [int:0@1,3 = int:1@1,7] [any: = int:-2@2,11])\n" +
			"(bind:g@3,1 [= int:1@3,5])\n(bind:f@4,1 [= int:2@4,5])",
		"f 0 = 1\ninfix 4 +\nf 1 = 2\ndata A = A\nf _ = 3": "(data:A@4,6 A@4,10)\nfix:+:0:4@2,9\n(bind:f@1,1 [int:0@1,3 = int:1@1,7] [int:1@3,3 = int:2@3,7] [any: = int:3@5,7])",
		"f | a = 1 | b = 2\n":                              "(bind:f@1,1 [| var:a@1,5 = int:1@1,9 | var:b@1,13 = int:2@1,17])",
		"f (C x (D _)) A (B) (-3) ((y)) 7 = A":             "(bind:f@1,1 [(con:C@1,4 var:x@1,6 (con:D@1,9 any:)) con:A@1,15 con:B@1,18 int:-3@1,23 var:y@1,28 int:7@1,32 = con:A@1,36])",
		"f C 1 = 2":                                        "(bind:f@1,1 [con:C@1,3 int:1@1,5 = int:2@1,9])",
		"f (-9223372036854775808) (-0) 9223372036854775807 = (-9223372036854775808)": "(bind:f@1,1 [int:-9223372036854775808@1,5 int:0@1,28 int:9223372036854775807@1,31 = int:-9223372036854775808@1,55])",
		"data L = N | C Int L\ndata P a b' = P a (L a) (a -> b' -> P a b')":          "(data:L@1,6 N@1,10 (C@1,14 con:Int con:L))\n(data:P@2,6 a b' (P@2,15 var:a (con:L var:a) (fun: var:a (fun: var:b' (con:P var:a var:b')))))",
		"data F = F ((A -> B) -> C d E (F)) (((a)))":                                 "(data:F@1,6 (F@1,10 (fun: (fun: con:A con:B) (con:C var:d con:E con:F)) var:a))",
		"data A = A A (A)": "(data:A@1,6 (A@1,10 con:A con:A))",
		"infixl 6 +\ninfixr 0 ++\ninfix 9 -\ninfixl 1 +": "fix:+:1:6@1,10\nfix:++:2:0@2,10\nfix:-:0:9@3,9\nfix:+:1:1@4,10",
		"f = a ++ b ++ c\ninfixr 5 ++":                   "fix:++:2:5@2,10\n(bind:f@1,1 [= (app:@1,7 (app:@1,7 var:++@1,7 var:a@1,5) (app:@1,12 (app:@1,12 var:++@1,12 var:b@1,10) var:c@1,15))])",
		"infixr 6 -\nf = 1 - 2 - 3\ninfixl 6 -":          "fix:-:2:6@1,10\nfix:-:1:6@3,10\n(bind:f@2,1 [= (app:@2,7 (app:@2,7 var:-@2,7 int:1@2,5) (app:@2,11 (app:@2,11 var:-@2,11 int:2@2,9) int:3@2,13))])",
		"f = \\x _ -> x + 1":                             "(bind:f@1,1 [= (lam:@1,5 x _ (app:@1,15 (app:@1,15 var:+@1,15 var:x@1,13) int:1@1,17))])",
		"f = 2 * \\x -> x + 1":                           "(bind:f@1,1 [= (app:@1,7 (app:@1,7 var:*@1,7 int:2@1,5) (lam:@1,9 x (app:@1,17 (app:@1,17 var:+@1,17 var:x@1,15) int:1@1,19)))])",
		"f = (\\x -> x) 1":                               "(bind:f@1,1 [= (app:@1,6 (lam:@1,6 x var:x@1,12) int:1@1,15)])",
		"f = (a + b) c":                                  "(bind:f@1,1 [= (app:@1,8 (app:@1,8 (app:@1,8 var:+@1,8 var:a@1,6) var:b@1,10) var:c@1,13)])",
		"f = if a then b else c + d":                     "(bind:f@1,1 [= (if:@1,5 var:a@1,8 var:b@1,15 (app:@1,24 (app:@1,24 var:+@1,24 var:c@1,22) var:d@1,26))])",
		"f = let a 0 = 1; a _ = 2\n        b = a in b a": "(bind:f@1,1 [= (let:@1,5 (bind:a@1,9 [int:0@1,11 = int:1@1,15] [any: = int:2@1,24]) (bind:b@2,9 [= var:a@2,13]) (app:@2,18 var:b@2,18 var:a@2,20))])",
		"f = let { (+) | a = 1 | b = 2 } in 3":           "(bind:f@1,1 [= (let:@1,5 (bind:+@1,12 [| var:a@1,17 = int:1@1,21 | var:b@1,25 = int:2@1,29]) int:3@1,36)])",
		"f = let { ; a = 1;; b = 2; a = 3; ; } in 4":     "(bind:f@1,1 [= (let:@1,5 (bind:a@1,13 [= int:1@1,17]) (bind:b@1,21 [= int:2@1,25]) (bind:a@1,28 [= int:3@1,32]) int:4@1,42)])",
		"f = case g x of\n  C y z -> y\n  _ | a -> 1\n    | b -> 2\n  (-1) -> z": "(bind:f@1,1 [= (case:@1,5 (app:@1,10 var:g@1,10 var:x@1,12) [(con:C@2,3 var:y@2,5 var:z@2,7) = var:y@2,12]" +
			" [any: | var:a@3,7 = int:1@3,12 | var:b@4,7 = int:2@4,12] [int:-1@5,5 = var:z@5,11])])",
		"f = case a of { ; A -> 1; ; (B) -> 2;}": "(bind:f@1,1 [= (case:@1,5 var:a@1,10 [con:A@1,19 = int:1@1,24] [con:B@1,30 = int:2@1,36])])",
		"f | \\x -> y = 1":                       "(bind:f@1,1 [| (lam:@1,5 x var:y@1,11) = int:1@1,15])",
		"f = case a of b | \\x -> y -> 1":        "(bind:f@1,1 [= (case:@1,5 var:a@1,10 [var:b@1,15 | (lam:@1,19 x var:y@1,25) = int:1@1,30])])",
	} {
		if got := tellProgram(read(t, src)); got != want {
			t.Errorf("Program(%q):\n%s, not\n%s", src, got, want)
		}
	}
}

// P6.1: faults, each at its place.

func TestParseFaults(t *testing.T) {
	for src, want := range map[string]api.Pos{
		// Where the tokens end, and where what is made has no place.
		"f":                {Line: 1, Col: 1},
		"f = ":             {Line: 1, Col: 3},
		"f x |":            {Line: 1, Col: 5},
		"{":                {Line: 1, Col: 1},
		"{ f = 1":          {Line: 1, Col: 7},
		"{ f = 1\n; ":      {Line: 2, Col: 1},
		"{ f = ( 1\n+ 2\n": {Line: 2, Col: 3},
		"{} x":             {Line: 1, Col: 4},
		"{};":              {Line: 1, Col: 3},
		"{}}":              {Line: 1, Col: 3},
		"}":                {Line: 1, Col: 1},
		"f = 1 }":          {Line: 1, Col: 7},
		"  f = 1\ng = 2":   {Line: 2, Col: 1},
		"f = (1\ng = 2":    {Line: 2, Col: 1},
		"f = 1\n}\ng":      {Line: 3, Col: 1},
		// Tops.
		"F = 1":                   {Line: 1, Col: 1},
		"1 = 2":                   {Line: 1, Col: 1},
		"_ = 1":                   {Line: 1, Col: 1},
		"+ a b = 1":               {Line: 1, Col: 1},
		"= 1":                     {Line: 1, Col: 1},
		"let a = 1 in a":          {Line: 1, Col: 1},
		"(f) = 1":                 {Line: 1, Col: 2},
		"(=) = 1":                 {Line: 1, Col: 2},
		"(+ = 1":                  {Line: 1, Col: 4},
		"(-1) = 1":                {Line: 1, Col: 3},
		"f = 1 g = 2":             {Line: 1, Col: 9},
		"f = 1; = 2":              {Line: 1, Col: 8},
		"data l = A":              {Line: 1, Col: 6},
		"data L":                  {Line: 1, Col: 6},
		"data L =":                {Line: 1, Col: 8},
		"data L = a":              {Line: 1, Col: 10},
		"data L A = B":            {Line: 1, Col: 8},
		"data L (a) = B":          {Line: 1, Col: 8},
		"data L _ = B":            {Line: 1, Col: 8},
		"data L = A |":            {Line: 1, Col: 12},
		"data L = | A":            {Line: 1, Col: 10},
		"data L = A | b":          {Line: 1, Col: 14},
		"data L = A 1":            {Line: 1, Col: 12},
		"data L = A -> B":         {Line: 1, Col: 12},
		"data L = A ()":           {Line: 1, Col: 13},
		"data L = A (B ->)":       {Line: 1, Col: 17},
		"data L = A (-> B)":       {Line: 1, Col: 13},
		"data L = A (B c -> 1)":   {Line: 1, Col: 20},
		"data L = A (b C)":        {Line: 1, Col: 15},
		"data L = A ((B) C)":      {Line: 1, Col: 17},
		"data L = A (B":           {Line: 1, Col: 13},
		"data L = A B)":           {Line: 1, Col: 13},
		"data L -> A":             {Line: 1, Col: 8},
		"infixl +":                {Line: 1, Col: 8},
		"infixl 10 +":             {Line: 1, Col: 8},
		"infixr 6 f":              {Line: 1, Col: 10},
		"infix 6":                 {Line: 1, Col: 7},
		"infix 6 =":               {Line: 1, Col: 9},
		"infix 6 + -":             {Line: 1, Col: 11},
		"infix 6 (+)":             {Line: 1, Col: 9},
		"infixl":                  {Line: 1, Col: 1},
		"infix 99999999999 +":     {Line: 1, Col: 7},
		"f = 1\n infixl 6 +":      {Line: 2, Col: 2},
		"f = let infixl 6 + in 1": {Line: 1, Col: 9},
		"f = let data A = A in 1": {Line: 1, Col: 9},
		// Patterns and bodies.
		"f (+) = 1":          {Line: 1, Col: 4},
		"f (- x) = 1":        {Line: 1, Col: 6},
		"f (-1 2) = 1":       {Line: 1, Col: 7},
		"f (+ 1) = 1":        {Line: 1, Col: 4},
		"f - 1 = 1":          {Line: 1, Col: 3},
		"f () = 1":           {Line: 1, Col: 4},
		"f (x y) = 1":        {Line: 1, Col: 6},
		"f (1 2) = 1":        {Line: 1, Col: 6},
		"f ((C) 2) = 1":      {Line: 1, Col: 8},
		"f (_ _) = 1":        {Line: 1, Col: 6},
		"f (C \\) = 1":       {Line: 1, Col: 6},
		"f (C 1 = 1":         {Line: 1, Col: 8},
		"f in = 1":           {Line: 1, Col: 3},
		"f -> 1":             {Line: 1, Col: 3},
		"f ; g = 1":          {Line: 1, Col: 3},
		"f | = 1":            {Line: 1, Col: 5},
		"f | a -> 1":         {Line: 1, Col: 7},
		"f | a | b = 1":      {Line: 1, Col: 7},
		"f | a = 1 = 2":      {Line: 1, Col: 11},
		"f | a = 1 | b":      {Line: 1, Col: 13},
		"f = 1 | a = 2":      {Line: 1, Col: 7},
		"f = 1 = 2":          {Line: 1, Col: 7},
		"f || a = 1":         {Line: 1, Col: 3},
		"f | 1 + = 2":        {Line: 1, Col: 9},
		"f | a = case 1 of ": {Line: 1, Col: 16},
		// Expressions.
		"f = _":                          {Line: 1, Col: 5},
		"f = ()":                         {Line: 1, Col: 6},
		"f = )":                          {Line: 1, Col: 5},
		"f = (1":                         {Line: 1, Col: 6},
		"f = ((1)":                       {Line: 1, Col: 8},
		"f = 1)":                         {Line: 1, Col: 6},
		"f = (+ 1)":                      {Line: 1, Col: 8},
		"f = (1 +)":                      {Line: 1, Col: 9},
		"f = (- x)":                      {Line: 1, Col: 8},
		"f = (- 1 2)":                    {Line: 1, Col: 10},
		"f = (- 1 + 2)":                  {Line: 1, Col: 10},
		"f = (- - 1)":                    {Line: 1, Col: 8},
		"f = (-":                         {Line: 1, Col: 6},
		"f = -1":                         {Line: 1, Col: 5},
		"f = 1 + + 2":                    {Line: 1, Col: 9},
		"f = 1 + - 2":                    {Line: 1, Col: 9},
		"f = 1 +":                        {Line: 1, Col: 7},
		"f = 1 + = 2":                    {Line: 1, Col: 9},
		"f = + 1":                        {Line: 1, Col: 5},
		"f = 1 -> 2":                     {Line: 1, Col: 7},
		"f = g \\x -> x":                 {Line: 1, Col: 7},
		"f = g let a = 1 in a":           {Line: 1, Col: 7},
		"f = g if a then b else c":       {Line: 1, Col: 7},
		"f = g case 1 of _ -> 2":         {Line: 1, Col: 7},
		"f = g in":                       {Line: 1, Col: 7},
		"f = g _":                        {Line: 1, Col: 7},
		"f = { 1 }":                      {Line: 1, Col: 5},
		"f = ({ 1 })":                    {Line: 1, Col: 6},
		"f = \\ -> 1":                    {Line: 1, Col: 7},
		"f = \\1 -> 1":                   {Line: 1, Col: 6},
		"f = \\(x) -> 1":                 {Line: 1, Col: 6},
		"f = \\x (y) -> 1":               {Line: 1, Col: 8},
		"f = \\C -> 1":                   {Line: 1, Col: 6},
		"f = \\x = 1":                    {Line: 1, Col: 8},
		"f = \\x ->":                     {Line: 1, Col: 8},
		"f = \\x":                        {Line: 1, Col: 6},
		"f = let in 1":                   {Line: 1, Col: 9},
		"f = let":                        {Line: 1, Col: 5},
		"f = let { } in 1":               {Line: 1, Col: 11},
		"f = let { ; ; } in 1":           {Line: 1, Col: 15},
		"f = let a = 1":                  {Line: 1, Col: 13},
		"f = let a = 1 b = 2 in 3":       {Line: 1, Col: 17},
		"f = let { a = 1 } of 3":         {Line: 1, Col: 19},
		"f = let { a = 1 b":              {Line: 1, Col: 17},
		"f = let { A = 1 } in 1":         {Line: 1, Col: 11},
		"f = let { a = 1; 2 } in 1":      {Line: 1, Col: 18},
		"f = let { a = 1 } in":           {Line: 1, Col: 19},
		"f = let { a -> 1 } in 1":        {Line: 1, Col: 13},
		"f = let { (a) = 1 } in 1":       {Line: 1, Col: 12},
		"f = let { a = 1 ) in 1":         {Line: 1, Col: 17},
		"f = if a then b":                {Line: 1, Col: 15},
		"f = if a else b":                {Line: 1, Col: 10},
		"f = if then b else c":           {Line: 1, Col: 8},
		"f = if a then else c":           {Line: 1, Col: 15},
		"f = if a then b else":           {Line: 1, Col: 17},
		"f = if a then b then c":         {Line: 1, Col: 17},
		"f = case of { 1 -> 2 }":         {Line: 1, Col: 10},
		"f = case 1 of":                  {Line: 1, Col: 12},
		"f = case 1 of { }":              {Line: 1, Col: 17},
		"f = case 1 of { ; }":            {Line: 1, Col: 19},
		"f = case 1 { 1 -> 2 }":          {Line: 1, Col: 12},
		"f = case 1 in { 1 -> 2 }":       {Line: 1, Col: 12},
		"f = case 1 of { x = 2 }":        {Line: 1, Col: 19},
		"f = case 1 of { + -> 2 }":       {Line: 1, Col: 17},
		"f = case 1 of { x y -> 2 }":     {Line: 1, Col: 19},
		"f = case 1 of { x -> }":         {Line: 1, Col: 22},
		"f = case 1 of { x -> 1 y -> 2}": {Line: 1, Col: 26},
		"f = case 1 of { x | a = 1 }":    {Line: 1, Col: 23},
		"f = case 1 of { x | a -> 1":     {Line: 1, Col: 26},
		"f = case 1 of { x -> 1 | a}":    {Line: 1, Col: 24},
		"f = case 1 of { x -> 1; -> 2}":  {Line: 1, Col: 25},
		"f = case 1 of { (-x) -> 1 }":    {Line: 1, Col: 19},
		"f = case 1 of { \\x -> 1 }":     {Line: 1, Col: 17},
	} {
		fails(t, src, api.Fault{Err: api.ErrParse, At: want})
	}
}

// P6.1: lex's error is ahead of all others.

func TestLexFaults(t *testing.T) {
	fails(t, "f = ) \"", fault(api.ErrChar, 1, 7))
	fails(t, "f = if a, b", fault(api.ErrChar, 1, 9))
	fails(t, ") = 9223372036854775808\n'", fault(api.ErrChar, 2, 1))
	fails(t, "f = 1 < 2 < 007", fault(api.ErrNumber, 1, 13))
	fails(t, ") 9223372036854775809", fault(api.ErrNumber, 1, 3))
	fails(t, "f = abcdefghijklmnopqrstuvwxyz0123456", fault(api.ErrLong, 1, 5))
	fails(t, strings.Repeat(" ", api.MaxSource+1), fault(api.ErrLong, 1, 1))
	fails(t, strings.Repeat(";", api.MaxTokens)+" )", fault(api.ErrLong, 1, api.MaxTokens+2))
	failsExpr(t, ") \"", nil, fault(api.ErrChar, 1, 3))
	failsExpr(t, ")"+strings.Repeat(" ", api.MaxSource), nil, fault(api.ErrLong, 1, 1))
	if p := read(t, strings.Repeat(" ", api.MaxSource)); !empty(p) {
		t.Error(p)
	}
	if p := read(t, strings.Repeat(";", api.MaxTokens)); !empty(p) {
		t.Error(p)
	}
}

// P6.1: a number below 0 without its sign in brackets, ahead of another fault, or behind it.

func TestNumberFaults(t *testing.T) {
	const least = "9223372036854775808"
	for src, want := range map[string]api.Fault{
		"f = %":                     fault(api.ErrNumber, 1, 5),
		"f % = 1":                   fault(api.ErrNumber, 1, 3),
		"f = (%)":                   fault(api.ErrNumber, 1, 6),
		"f (%) = 1":                 fault(api.ErrNumber, 1, 4),
		"f = x - %":                 fault(api.ErrNumber, 1, 9),
		"f = (x - %)":               fault(api.ErrNumber, 1, 10),
		"f = (- 1) + %":             fault(api.ErrNumber, 1, 13),
		"f = (+ %)":                 fault(api.ErrParse, 1, 8),
		"f = g % )":                 fault(api.ErrNumber, 1, 7),
		"f = ) %":                   fault(api.ErrParse, 1, 5),
		"{ f = %":                   fault(api.ErrNumber, 1, 7),
		"f = - %":                   fault(api.ErrParse, 1, 5),
		"% = 1":                     fault(api.ErrParse, 1, 1),
		"infixl % +":                fault(api.ErrParse, 1, 8),
		"data L = A %":              fault(api.ErrParse, 1, 12),
		"f (- % 1) = 1":             fault(api.ErrParse, 1, 26),
		"f = (- % + 1)":             fault(api.ErrParse, 1, 28),
		"f = (1 < 2 < 3) + %":       fault(api.ErrNumber, 1, 19),
		"f = 1 < 2 < 3\ng = %":      fault(api.ErrNumber, 2, 5),
		"f = case % of { 1 -> 2 }":  fault(api.ErrNumber, 1, 10),
		"f = case 1 of { % -> 2 }":  fault(api.ErrNumber, 1, 17),
		"f = case 1 of { C % -> 2}": fault(api.ErrNumber, 1, 19),
		"f = let % = 1 in 1":        fault(api.ErrParse, 1, 9),
		"f | % = 1":                 fault(api.ErrNumber, 1, 5),
	} {
		fails(t, strings.ReplaceAll(src, "%", least), want)
	}
	failsExpr(t, least, nil, fault(api.ErrNumber, 1, 1))
	failsExpr(t, "(- "+least+" "+least+")", nil, fault(api.ErrParse, 1, 24))
}

// P6.1: operators that clash.

func TestClashes(t *testing.T) {
	for src, want := range map[string]api.Pos{
		"f = 1 < 2 < 3":             {Line: 1, Col: 11},
		"f = 1 < 2 + 3 == 4":        {Line: 1, Col: 15},
		"f = 1 == 2 < 3 < 4":        {Line: 1, Col: 12},
		"infixr 6 -\nf = 1 + 2 - 3": {Line: 2, Col: 11},
		"f = 1 ! 2 ! 3\ninfix 5 !":  {Line: 1, Col: 11},
		"f = 1 + 2 + 3\ninfix 0 +":  {Line: 1, Col: 11},
		"infix 9 .\nf = 1 . 2 ! 3":  {Line: 2, Col: 11},
		// From the outside in, then by the operands from the left.
		"f = (1 < 2 < 3) == 4 == 5":                        {Line: 1, Col: 22},
		"f = (1 < 2 < 3) == (4 == 5 == 6)":                 {Line: 1, Col: 12},
		"f = 1 == (4 == 5 == 6)":                           {Line: 1, Col: 18},
		"f = g (1 < 2 < 3) (4 < 5 < 6)":                    {Line: 1, Col: 14},
		"f = (g (1 < 2 < 3)) + 2 < 3 < 4":                  {Line: 1, Col: 29},
		"f = ((1 < 2 < 3) < (4 < 5 < 6) < 7) * 1":          {Line: 1, Col: 32},
		"f = 1 + (\\x -> (x < 1 < 2) < 3 < 4) + (5 < 6<7)": {Line: 1, Col: 32},
		"f = 1 * \\x -> x < 1 < 2":                         {Line: 1, Col: 21},
		"f = if 1<2<3 then 4<5<6 else 7<8<9":               {Line: 1, Col: 11},
		"f = if 1 then 4<5<6 else 7<8<9":                   {Line: 1, Col: 18},
		"f = if 1 then 4 else 7<8<9":                       {Line: 1, Col: 25},
		"f = let a = 1<2<3 in 4<5<6":                       {Line: 1, Col: 16},
		"f = let a = 1; b = 1<2<3 in 4<5<6":                {Line: 1, Col: 23},
		"f = let a = 1 in 4<5<6":                           {Line: 1, Col: 21},
		"f = case 1<2<3 of _ -> 4<5<6":                     {Line: 1, Col: 13},
		"f = case 1 of { 1 | 2<3 -> 4<5<6; _ -> 7<8<9 }":   {Line: 1, Col: 31},
		"f = case 1 of { 1 -> 2; _ -> 7<8<9 }":             {Line: 1, Col: 33},
		"f | 1<2<3 = 4<5<6":                                {Line: 1, Col: 8},
		"f | 1 = 4<5<6 | 1<2<3 = 1":                        {Line: 1, Col: 12},
		"f | 1 = 4 | 1<2<3 = 7<8<9":                        {Line: 1, Col: 16},
		"f = 1\nf = 1<2<3\ng = 4<5<6":                      {Line: 2, Col: 8},
		"g = 1<2<3\nf = 4<5<6":                             {Line: 1, Col: 8},
	} {
		fails(t, src, api.Fault{Err: api.ErrFix, At: want})
	}
	// What is no row has none, and one in brackets none with those outside.
	for _, src := range []string{"f = (1 < 2) < 3", "f = 1 < (2 < 3)", "f = (<) 1 < (<) 2", "f = (\\x -> x < 1) < 2", "f = 1 < \\x -> x < 1", "f | 1 < 2 = 3 < 4", "f = let a = 1 < 2 in 3 < 4"} {
		read(t, src)
	}
	fails(t, "f = 1 < 2 < 3\ng = )", fault(api.ErrParse, 2, 5))
	fails(t, "infix 9 .\nf = 1 . 2 ! 3 )", fault(api.ErrParse, 2, 15))
	fails(t, "f = 1 < 2 < 3 +", fault(api.ErrParse, 1, 15))
}

// The longest rows that a source can have.

func TestLongRows(t *testing.T) {
	n := (api.MaxTokens - 3) / 2
	e := read(t, "f = a"+strings.Repeat("+a", n)).Binds[0].Clauses[0].Rhs[0].Body
	for range n {
		if e.Kind != api.EApp || e.Args[0].Args[0].Name != "+" || e.Args[1].Name != "a" {
			t.Fatal(e.Kind)
		}
		e = e.Args[0].Args[1]
	}
	e = readExpr(t, "a"+strings.Repeat("!a", api.MaxTokens/2-1), api.Fix{Op: "!", Assoc: api.FixRight})
	for range api.MaxTokens/2 - 1 {
		if e.Kind != api.EApp || e.Args[0].Args[1].Name != "a" {
			t.Fatal(e.Kind)
		}
		e = e.Args[1]
	}
	failsExpr(t, "a"+strings.Repeat("<a", api.MaxTokens/2-1), nil, fault(api.ErrFix, 1, 4))
	e = readExpr(t, strings.Repeat("a ", api.MaxTokens))
	for range api.MaxTokens - 1 {
		if e.Kind != api.EApp || e.Args[1].Name != "a" {
			t.Fatal(e.Kind)
		}
		e = e.Args[0]
	}
}

// Deep brackets.

func TestDeepBrackets(t *testing.T) {
	n := api.MaxTokens/2 - 1
	if e := readExpr(t, strings.Repeat("(", n)+"a"+strings.Repeat(")", n)); e.Kind != api.EVar || e.At.Col != n+1 {
		t.Error(tellExpr(e))
	}
	failsExpr(t, strings.Repeat("(", n)+"a"+strings.Repeat(")", n-1), nil, fault(api.ErrParse, 1, 2*n))
	failsExpr(t, strings.Repeat("(", api.MaxTokens), nil, fault(api.ErrParse, 1, api.MaxTokens))
	n = api.MaxTokens/4 - 2
	e := readExpr(t, strings.Repeat("a + (", n/2)+"b"+strings.Repeat(")", n/2))
	for range n / 2 {
		e = e.Args[1]
	}
	if e.Name != "b" {
		t.Error(tellExpr(e))
	}
	p := read(t, "f "+strings.Repeat("(C ", n)+"x"+strings.Repeat(")", n)+" = 1").Binds[0].Clauses[0].Pats[0]
	for range n {
		p = p.Args[0]
	}
	if p.Name != "x" {
		t.Error(p)
	}
	ty := read(t, "data T = C "+strings.Repeat("(a -> ", n)+"b"+strings.Repeat(")", n)).Datas[0].Cons[0].Fields[0]
	for range n {
		ty = ty.Args[1]
	}
	if ty.Name != "b" {
		t.Error(ty)
	}
	for _, s := range []string{"let {a=", "case ", "if ", "\\x -> ", "f (", "1 + (", "case 1 of { _ -> ", "case 1 of { _ | ", "let a = "} {
		src := strings.Repeat(s, 300)
		if _, f := parse.Expr(src, nil); f.Err != api.ErrParse {
			t.Errorf("Expr of many %q: %v", s, f)
		}
		if p, f := parse.Program("f = " + src); f.Err != api.ErrParse || !empty(p) {
			t.Errorf("Program of many %q: %v", s, f)
		}
	}
}

// P6.2

func TestExpr(t *testing.T) {
	for src, want := range map[string]string{
		"x":                  "var:x@1,1",
		"{ x }":              "var:x@1,3",
		"\n  f\n   x":        "(app:@2,3 var:f@2,3 var:x@3,4)",
		"a+b*c":              "(app:@1,2 (app:@1,2 var:+@1,2 var:a@1,1) (app:@1,4 (app:@1,4 var:*@1,4 var:b@1,3) var:c@1,5))",
		"a*b+c":              "(app:@1,4 (app:@1,4 var:+@1,4 (app:@1,2 (app:@1,2 var:*@1,2 var:a@1,1) var:b@1,3)) var:c@1,5)",
		"a!b!c":              "(app:@1,4 (app:@1,4 var:!@1,4 (app:@1,2 (app:@1,2 var:!@1,2 var:a@1,1) var:b@1,3)) var:c@1,5)",
		"let a = 1 in a":     "(let:@1,1 (bind:a@1,5 [= int:1@1,9]) var:a@1,14)",
		"case x of\n A -> 1": "(case:@1,1 var:x@1,6 [con:A@2,2 = int:1@2,7])",
		"(- 5)":              "int:-5@1,4",
	} {
		if got := tellExpr(readExpr(t, src)); got != want {
			t.Errorf("Expr(%q): %s, not %s", src, got, want)
		}
	}
	right := []api.Fix{{Op: "!", Assoc: api.FixRight, Level: 5}, {Op: "+", Assoc: api.FixNone, Level: 0}, {Op: "!", Assoc: api.FixLeft, Level: 3}}
	if got, want := tellExpr(readExpr(t, "a!b!c", right...)), "(app:@1,2 (app:@1,2 var:!@1,2 var:a@1,1) (app:@1,4 (app:@1,4 var:!@1,4 var:b@1,3) var:c@1,5))"; got != want {
		t.Error(got)
	}
	failsExpr(t, "a + b + c", right, fault(api.ErrFix, 1, 7))
	failsExpr(t, "1 < 2 < 3", nil, fault(api.ErrFix, 1, 7))
	for src, want := range map[string]api.Pos{
		"":           {Line: 1, Col: 1},
		"{}":         {Line: 1, Col: 2},
		"{ x":        {Line: 1, Col: 3},
		"{ x } y":    {Line: 1, Col: 7},
		"x\ny":       {Line: 2, Col: 1},
		" x\ny":      {Line: 2, Col: 1},
		"x;":         {Line: 1, Col: 2},
		"; x":        {Line: 1, Col: 1},
		"{ ; x }":    {Line: 1, Col: 3},
		"x y = 1":    {Line: 1, Col: 5},
		"f = 1":      {Line: 1, Col: 3},
		"infixl 6 +": {Line: 1, Col: 1},
		"(x":         {Line: 1, Col: 2},
		"({ x })":    {Line: 1, Col: 2},
	} {
		failsExpr(t, src, nil, api.Fault{Err: api.ErrParse, At: want})
	}
}

// P6.2: ways of binding that may not be.

func TestWaysThatMayNotBe(t *testing.T) {
	for _, wrong := range []api.Fix{{Op: "!", Assoc: 3, Level: 5}, {Op: "!", Assoc: -1}, {Op: "!", Level: 10}, {Op: "!", Level: -1}} {
		l := []api.Fix{{Op: "?", Assoc: api.FixLeft, Level: 2}, wrong, {Op: "!", Assoc: api.FixLeft, Level: 2}}
		failsExpr(t, "a ? b ! c", l, fault(api.ErrArg, 1, 7))
		failsExpr(t, "a ! b ! c", l, fault(api.ErrArg, 1, 3))
		failsExpr(t, "1 < 2 < 3 ! 4", l, fault(api.ErrArg, 1, 11))
		failsExpr(t, "(a ! b) < 1 < 2", l, fault(api.ErrFix, 1, 13))
		failsExpr(t, "(1 < 2 < 3) ! 2", l, fault(api.ErrArg, 1, 13))
		failsExpr(t, "(1 < 2 < 3) ? (2 ! 3)", l, fault(api.ErrFix, 1, 8))
		failsExpr(t, "(2 ! 3) ? (1 < 2 < 3)", l, fault(api.ErrArg, 1, 4))
		failsExpr(t, "a ! )", l, fault(api.ErrParse, 1, 5))
		readExpr(t, "(!) a b ? c", l...)
		readExpr(t, "a ! b", l[2:]...)
	}
}
