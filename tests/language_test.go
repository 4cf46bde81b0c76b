package tests

import (
	"bytes"
	"go/ast"
	"go/format"
	"go/parser"
	"go/token"
	"os"
	"path/filepath"
	"slices"
	"strconv"
	"strings"
	"testing"
)

const longestFunction = 60

// allowedImports: the library's packages that the language page names.
const allowedImports = " bytes cmp container/heap errors iter maps math math/bits slices sort strconv strings sync sync/atomic unicode unicode/utf8 "

type sourceFile struct {
	path string
	text []byte
	file *ast.File
}

func sources(t *testing.T) (*token.FileSet, []sourceFile) {
	t.Helper()
	paths, err := filepath.Glob("../impl/*.go")
	if err != nil || len(paths) == 0 {
		t.Fatal("no files of the program", err)
	}
	fset := token.NewFileSet()
	var l []sourceFile
	for _, p := range paths {
		text, err := os.ReadFile(p)
		if err != nil {
			t.Fatal(err)
		}
		f, err := parser.ParseFile(fset, p, text, parser.ParseComments)
		if err != nil {
			t.Fatal(err)
		}
		l = append(l, sourceFile{p, text, f})
	}
	return fset, l
}

func TestImportsAndLayout(t *testing.T) {
	_, l := sources(t)
	for _, s := range l {
		for _, i := range s.file.Imports {
			name, _ := strconv.Unquote(i.Path.Value)
			if !strings.Contains(allowedImports, " "+name+" ") {
				t.Errorf("%s imports %s", s.path, name)
			}
		}
		if laid, err := format.Source(s.text); err != nil || !bytes.Equal(laid, s.text) {
			t.Errorf("%s is not laid out by gofmt", s.path)
		}
		if bytes.Contains(s.text, []byte("//go:")) {
			t.Errorf("%s has a //go: line", s.path)
		}
	}
}

func TestFunctionsAreShort(t *testing.T) {
	fset, l := sources(t)
	for _, s := range l {
		for _, d := range s.file.Decls {
			f, ok := d.(*ast.FuncDecl)
			if !ok {
				continue
			}
			if n := fset.Position(f.End()).Line - fset.Position(f.Pos()).Line + 1; n > longestFunction {
				t.Errorf("%s: %s has %d lines", s.path, f.Name.Name, n)
			}
		}
	}
}

// namedIn answers the functions of a file whose names a function's body uses.
func namedIn(f *ast.FuncDecl) map[string]bool {
	l := map[string]bool{}
	ast.Inspect(f.Body, func(n ast.Node) bool {
		if x, ok := n.(*ast.Ident); ok {
			l[x.Name] = true
		}
		return true
	})
	return l
}

func TestNumbersArePutByVariadicFunctions(t *testing.T) {
	_, l := sources(t)
	for _, s := range l {
		if filepath.Base(s.path) != "l01_bytes.go" {
			continue
		}
		variadic, put := []string{}, map[string]bool{}
		for _, d := range s.file.Decls {
			f, ok := d.(*ast.FuncDecl)
			if !ok {
				continue
			}
			ps := f.Type.Params.List
			if _, ok := ps[len(ps)-1].Type.(*ast.Ellipsis); ok {
				variadic = append(variadic, f.Name.Name)
			}
			if f.Name.Name == "PutNum" {
				put = namedIn(f)
			}
		}
		if !slices.ContainsFunc(variadic, func(name string) bool { return put[name] }) {
			t.Error("PutNum reaches no variadic function")
		}
		return
	}
	t.Error("there is no l01_bytes.go")
}

// answersIterator says whether a function answers something that can be ranged over by yielding.
func answersIterator(f *ast.FuncDecl) bool {
	if f.Type.Results == nil || len(f.Type.Results.List) != 1 {
		return false
	}
	seq, ok := f.Type.Results.List[0].Type.(*ast.IndexExpr)
	if !ok {
		return false
	}
	name, ok := seq.X.(*ast.SelectorExpr)
	return ok && name.Sel.Name == "Seq"
}

// rangedCalls answers the functions over whose answers a function's body ranges.
func rangedCalls(f *ast.FuncDecl) map[string]bool {
	l := map[string]bool{}
	ast.Inspect(f.Body, func(n ast.Node) bool {
		r, ok := n.(*ast.RangeStmt)
		if !ok {
			return true
		}
		if call, ok := r.X.(*ast.CallExpr); ok {
			if name, ok := call.Fun.(*ast.Ident); ok {
				l[name.Name] = true
			}
		}
		return true
	})
	return l
}

func TestNamesComeOutOfAnIterator(t *testing.T) {
	iterators, ranged := []string{}, map[string]bool{}
	_, l := sources(t)
	for _, s := range l {
		if filepath.Base(s.path) != "l02_path.go" {
			continue
		}
		for _, d := range s.file.Decls {
			f, ok := d.(*ast.FuncDecl)
			if !ok {
				continue
			}
			if answersIterator(f) {
				iterators = append(iterators, f.Name.Name)
			}
			if f.Name.Name == "SplitPath" {
				ranged = rangedCalls(f)
			}
		}
	}
	for _, name := range iterators {
		if ranged[name] {
			return
		}
	}
	t.Error("SplitPath ranges over no iterator of its own")
}

// declsOf answers what one file of the program declares.
func declsOf(t *testing.T, name string) []ast.Decl {
	t.Helper()
	_, l := sources(t)
	for _, s := range l {
		if filepath.Base(s.path) == name {
			return s.file.Decls
		}
	}
	t.Fatal("there is no", name)
	return nil
}

// declares says whether a declaration gives a value to this name, and by which expression (that of the row above, if it has none).
func declares(d ast.Decl, name string) (ast.Expr, bool) {
	g, ok := d.(*ast.GenDecl)
	if !ok || g.Tok != token.CONST {
		return nil, false
	}
	var by ast.Expr
	for _, s := range g.Specs {
		v := s.(*ast.ValueSpec)
		if len(v.Values) > 0 {
			by = v.Values[0]
		}
		if v.Names[0].Name == name {
			return by, true
		}
	}
	return nil, false
}

func TestKindsAreConstantsWithIota(t *testing.T) {
	for _, kind := range []string{"InFile", "InDir"} {
		withIota := false
		for _, d := range declsOf(t, "l03_inode.go") {
			by, ok := declares(d, kind)
			if !ok {
				continue
			}
			ast.Inspect(by, func(n ast.Node) bool {
				if x, ok := n.(*ast.Ident); ok && x.Name == "iota" {
					withIota = true
				}
				return true
			})
		}
		if !withIota {
			t.Error(kind, "is no constant with iota")
		}
	}
}

// hasClosure says whether a function's body writes out a function.
func hasClosure(f *ast.FuncDecl) bool {
	found := false
	ast.Inspect(f.Body, func(n ast.Node) bool {
		if _, ok := n.(*ast.FuncLit); ok {
			found = true
		}
		return !found
	})
	return found
}

func TestInodesAreReadByAClosure(t *testing.T) {
	closures, get := []string{}, map[string]bool{}
	for _, d := range declsOf(t, "l03_inode.go") {
		f, ok := d.(*ast.FuncDecl)
		if !ok {
			continue
		}
		if hasClosure(f) {
			closures = append(closures, f.Name.Name)
		}
		if f.Name.Name == "GetInode" {
			get = namedIn(f)
			get[f.Name.Name] = true
		}
	}
	if !slices.ContainsFunc(closures, func(name string) bool { return get[name] }) {
		t.Error("GetInode reaches no closure")
	}
}

// deletes says whether a function's body deletes from a map.
func deletes(f *ast.FuncDecl) bool {
	found := false
	ast.Inspect(f.Body, func(n ast.Node) bool {
		if call, ok := n.(*ast.CallExpr); ok {
			name, ok := call.Fun.(*ast.Ident)
			found = found || ok && name.Name == "delete"
		}
		return !found
	})
	return found
}

// answersMapByNumber says whether a function answers a map whose keys are numbers.
func answersMapByNumber(f *ast.FuncDecl) bool {
	if f.Type.Results == nil || len(f.Type.Results.List) != 1 {
		return false
	}
	m, ok := f.Type.Results.List[0].Type.(*ast.MapType)
	if !ok {
		return false
	}
	key, ok := m.Key.(*ast.Ident)
	return ok && key.Name == "int"
}

func TestInodesStandInAMapByTheirNumber(t *testing.T) {
	maps, asked, deleted := []string{}, map[string]map[string]bool{}, false
	for _, d := range declsOf(t, "l04_tab.go") {
		f, ok := d.(*ast.FuncDecl)
		if !ok {
			continue
		}
		if answersMapByNumber(f) {
			maps = append(maps, f.Name.Name)
		}
		asked[f.Name.Name] = namedIn(f)
		deleted = deleted || f.Name.Name == "DropInode" && deletes(f)
	}
	for _, name := range []string{"InodeAt", "SetInode", "DropInode"} {
		if !slices.ContainsFunc(maps, func(m string) bool { return asked[name][m] }) {
			t.Error(name, "asks no map of inodes by their number")
		}
	}
	if !deleted {
		t.Error("DropInode deletes from no map")
	}
}

// funcsOf answers the functions of one file of the program, by their names; methods are left out.
func funcsOf(t *testing.T, name string) map[string]*ast.FuncDecl {
	t.Helper()
	l := map[string]*ast.FuncDecl{}
	for _, d := range declsOf(t, name) {
		if f, ok := d.(*ast.FuncDecl); ok && f.Recv == nil {
			l[f.Name.Name] = f
		}
	}
	return l
}

// errorTypes answers the types of one file of the program that are errors.
func errorTypes(t *testing.T, name string) []string {
	t.Helper()
	l := []string{}
	for _, d := range declsOf(t, name) {
		f, ok := d.(*ast.FuncDecl)
		if !ok || f.Recv == nil || f.Name.Name != "Error" {
			continue
		}
		if of, ok := f.Recv.List[0].Type.(*ast.Ident); ok {
			l = append(l, of.Name)
		}
	}
	return l
}

// asksByAs says whether a function's body calls errors.As.
func asksByAs(f *ast.FuncDecl) bool {
	found := false
	ast.Inspect(f.Body, func(n ast.Node) bool {
		if s, ok := n.(*ast.SelectorExpr); ok {
			of, ok := s.X.(*ast.Ident)
			found = found || ok && of.Name == "errors" && s.Sel.Name == "As"
		}
		return !found
	})
	return found
}

func TestACodeIsAnErrorAskedForByAs(t *testing.T) {
	funcs, kinds := funcsOf(t, "l05_look.go"), errorTypes(t, "l05_look.go")
	asks := []string{}
	for name, f := range funcs {
		used := namedIn(f)
		if asksByAs(f) && slices.ContainsFunc(kinds, func(k string) bool { return used[k] }) {
			asks = append(asks, name)
		}
	}
	for _, name := range []string{"Walk", "Stat", "List", "ReadFile", "GetAttr"} {
		f := funcs[name]
		if f == nil {
			t.Error("there is no", name)
			continue
		}
		if used := namedIn(f); !slices.ContainsFunc(asks, func(a string) bool { return used[a] }) {
			t.Error(name, "asks for no error of a type of its own by errors.As")
		}
	}
}

// methodsOf answers the methods of one file of the program, as a type's name, a dot and their own.
func methodsOf(t *testing.T, name string) map[string]bool {
	t.Helper()
	l := map[string]bool{}
	for _, d := range declsOf(t, name) {
		f, ok := d.(*ast.FuncDecl)
		if !ok || f.Recv == nil {
			continue
		}
		if of, ok := f.Recv.List[0].Type.(*ast.Ident); ok {
			l[of.Name+"."+f.Name.Name] = true
		}
	}
	return l
}

// methodsInTables answers which of these methods stand, as expressions, in a table that a function's body writes out.
func methodsInTables(f *ast.FuncDecl, methods map[string]bool) map[string]bool {
	l := map[string]bool{}
	ast.Inspect(f.Body, func(n ast.Node) bool {
		table, ok := n.(*ast.CompositeLit)
		if !ok {
			return true
		}
		for _, e := range table.Elts {
			if pair, ok := e.(*ast.KeyValueExpr); ok {
				e = pair.Value
			}
			s, ok := e.(*ast.SelectorExpr)
			if !ok {
				continue
			}
			if of, ok := s.X.(*ast.Ident); ok && methods[of.Name+"."+s.Sel.Name] {
				l[of.Name+"."+s.Sel.Name] = true
			}
		}
		return true
	})
	return l
}

// reaches says whether a function's body uses a name, or another function's that does.
func reaches(funcs map[string]*ast.FuncDecl, from, to string) bool {
	seen := map[string]bool{}
	var reach func(name string) bool
	reach = func(name string) bool {
		if name == to {
			return true
		}
		if seen[name] || funcs[name] == nil {
			return false
		}
		seen[name] = true
		for used := range namedIn(funcs[name]) {
			if reach(used) {
				return true
			}
		}
		return false
	}
	return reach(from)
}

func TestChangesAreMethodExpressionsInATable(t *testing.T) {
	funcs, methods := funcsOf(t, "l06_change.go"), methodsOf(t, "l06_change.go")
	changes := []string{"MakeDir", "MakeFile", "WriteAt", "Truncate", "Unlink", "RemoveDir", "HardLink", "Rename", "SetAttr"}
	for name, f := range funcs {
		if len(methodsInTables(f, methods)) < len(changes) {
			continue
		}
		for _, change := range changes {
			if !reaches(funcs, change, name) {
				t.Error(change, "asks no table of method expressions")
			}
		}
		return
	}
	t.Error("there is no table of method expressions, one a change")
}

// callsItself says whether a function's body has a closure that is held by a name, and uses that name within.
func callsItself(f *ast.FuncDecl) bool {
	found := false
	ast.Inspect(f.Body, func(n ast.Node) bool {
		set, ok := n.(*ast.AssignStmt)
		if !ok || len(set.Lhs) != 1 {
			return true
		}
		held, isName := set.Lhs[0].(*ast.Ident)
		closure, isClosure := set.Rhs[0].(*ast.FuncLit)
		if isName && isClosure {
			found = found || namedIn(&ast.FuncDecl{Body: closure.Body})[held.Name]
		}
		return true
	})
	return found
}

func TestWhatIsReachedIsGoneThroughByAClosure(t *testing.T) {
	for _, name := range []string{"Reached", "PathsOf"} {
		if f := funcsOf(t, "l07_tree.go")[name]; f == nil || !callsItself(f) {
			t.Error(name, "has no closure that calls itself")
		}
	}
}

// structsOf answers the structs of one file of the program, by their names.
func structsOf(t *testing.T, name string) map[string]*ast.StructType {
	t.Helper()
	l := map[string]*ast.StructType{}
	for _, d := range declsOf(t, name) {
		g, ok := d.(*ast.GenDecl)
		if !ok || g.Tok != token.TYPE {
			continue
		}
		for _, s := range g.Specs {
			if of, ok := s.(*ast.TypeSpec).Type.(*ast.StructType); ok {
				l[s.(*ast.TypeSpec).Name.Name] = of
			}
		}
	}
	return l
}

// embedding answers the types of one file of the program that are structs with this type embedded.
func embedding(t *testing.T, name, embedded string) []string {
	t.Helper()
	l := []string{}
	for of, fields := range structsOf(t, name) {
		for _, field := range fields.Fields.List {
			if is, ok := field.Type.(*ast.Ident); ok && len(field.Names) == 0 && is.Name == embedded {
				l = append(l, of)
			}
		}
	}
	return l
}

// askedOfItself answers the names that a method's body asks of its own receiver.
func askedOfItself(f *ast.FuncDecl) map[string]bool {
	l := map[string]bool{}
	ast.Inspect(f.Body, func(n ast.Node) bool {
		if s, ok := n.(*ast.SelectorExpr); ok {
			of, ok := s.X.(*ast.Ident)
			if ok && of.Name == f.Recv.List[0].Names[0].Name {
				l[s.Sel.Name] = true
			}
		}
		return true
	})
	return l
}

func TestVolumesEmbedTheirTrees(t *testing.T) {
	volumes, methods := embedding(t, "l08_vol.go", "Tab"), methodsOf(t, "l08_vol.go")
	for _, d := range declsOf(t, "l08_vol.go") {
		f, ok := d.(*ast.FuncDecl)
		if !ok || f.Recv == nil {
			continue
		}
		of, ok := f.Recv.List[0].Type.(*ast.Ident)
		if !ok || !slices.Contains(volumes, of.Name) {
			continue
		}
		for name := range askedOfItself(f) {
			if methods["Tab."+name] && !methods[of.Name+"."+name] {
				return
			}
		}
	}
	t.Error("no volume is asked for a method of the tree that it embeds")
}

// fallsThrough says whether a clause ends by falling through to the next one.
func fallsThrough(c *ast.CaseClause) bool {
	if len(c.Body) == 0 {
		return false
	}
	last, ok := c.Body[len(c.Body)-1].(*ast.BranchStmt)
	return ok && last.Tok == token.FALLTHROUGH
}

// endsOfClauses answers, by the names that a switch's clauses have, at which clause each of them ends up, and whether it fell there.
func endsOfClauses(s *ast.SwitchStmt) (ends map[string]int, fell map[string]bool) {
	ends, fell = map[string]int{}, map[string]bool{}
	for i, stmt := range s.Body.List {
		c, end := stmt.(*ast.CaseClause), i
		for fallsThrough(s.Body.List[end].(*ast.CaseClause)) {
			end++
		}
		for _, e := range c.List {
			if name, ok := e.(*ast.Ident); ok {
				ends[name.Name], fell[name.Name] = end, end > i
			}
		}
	}
	return ends, fell
}

func TestOperationsFallThroughToWhatAllOfATreeHave(t *testing.T) {
	f := funcsOf(t, "l09_op.go")["Apply"]
	if f == nil {
		t.Fatal("there is no Apply")
	}
	found := false
	ast.Inspect(f.Body, func(n ast.Node) bool {
		s, ok := n.(*ast.SwitchStmt)
		if !ok {
			return true
		}
		ends, fell := endsOfClauses(s)
		at, there := ends["OpDir"]
		all := there
		for _, kind := range []string{"OpFile", "OpWrite", "OpCut", "OpUnlink", "OpRmdir", "OpLink", "OpMove", "OpAttr"} {
			end, there := ends[kind]
			all = all && there && end == at
		}
		found = found || all && fell["OpWrite"] && fell["OpCut"] && fell["OpLink"] && fell["OpMove"] && fell["OpAttr"]
		return true
	})
	if !found {
		t.Error("the operations of a tree do not fall through to one clause")
	}
}

// hasFixedPages says whether a struct has a field that is an array of so many pages as a block has.
func hasFixedPages(of *ast.StructType) bool {
	for _, field := range of.Fields.List {
		a, ok := field.Type.(*ast.ArrayType)
		if !ok {
			continue
		}
		length, isName := a.Len.(*ast.Ident)
		elem, isPage := a.Elt.(*ast.Ident)
		if isName && isPage && length.Name == "PagesPer" && elem.Name == "Page" {
			return true
		}
	}
	return false
}

// pointedAt answers the names of all types to which there are pointers in a piece of the program.
func pointedAt(in ast.Node) map[string]bool {
	l := map[string]bool{}
	ast.Inspect(in, func(n ast.Node) bool {
		if s, ok := n.(*ast.StarExpr); ok {
			if of, ok := s.X.(*ast.Ident); ok {
				l[of.Name] = true
			}
		}
		return true
	})
	return l
}

// ofBlocks says whether a struct has a list of what is named so.
func ofBlocks(of *ast.StructType, names []string) bool {
	return slices.ContainsFunc(of.Fields.List, func(field *ast.Field) bool {
		a, ok := field.Type.(*ast.ArrayType)
		if !ok {
			return false
		}
		elem, ok := a.Elt.(*ast.Ident)
		return ok && slices.Contains(names, elem.Name)
	})
}

func TestPagesAreAnArrayAndAChipIsReachedByAPointer(t *testing.T) {
	structs, blocks := structsOf(t, "l10_chip.go"), []string{}
	for name, of := range structs {
		if hasFixedPages(of) {
			blocks = append(blocks, name)
		}
	}
	funcs := funcsOf(t, "l10_chip.go")
	for _, name := range []string{"Program", "Erase"} {
		if funcs[name] == nil {
			t.Fatal("there is no", name)
		}
		reached := false
		for of := range pointedAt(funcs[name]) {
			reached = reached || structs[of] != nil && ofBlocks(structs[of], blocks)
		}
		if !reached {
			t.Error(name, "reaches no chip by a pointer whose pages are an array of a fixed length")
		}
	}
}

// allFuncsOf answers the functions and methods of one file of the program, by their names; methods of one name are taken together.
func allFuncsOf(t *testing.T, name string) map[string][]*ast.FuncDecl {
	t.Helper()
	l := map[string][]*ast.FuncDecl{}
	for _, d := range declsOf(t, name) {
		if f, ok := d.(*ast.FuncDecl); ok {
			l[f.Name.Name] = append(l[f.Name.Name], f)
		}
	}
	return l
}

// reachedFrom answers all functions and methods whose names a function's body uses, or that of another one which it so reaches.
func reachedFrom(funcs map[string][]*ast.FuncDecl, from string) []*ast.FuncDecl {
	l, seen, next := []*ast.FuncDecl{}, map[string]bool{}, []string{from}
	for len(next) > 0 {
		name := next[0]
		next = next[1:]
		if seen[name] {
			continue
		}
		seen[name] = true
		for _, f := range funcs[name] {
			l = append(l, f)
			for used := range namedIn(f) {
				next = append(next, used)
			}
		}
	}
	return l
}

// calls says whether this is called in a piece of the program.
func calls(in ast.Node, name string) bool {
	found := false
	ast.Inspect(in, func(n ast.Node) bool {
		if call, ok := n.(*ast.CallExpr); ok {
			of, ok := call.Fun.(*ast.Ident)
			found = found || ok && of.Name == name
		}
		return !found
	})
	return found
}

// recoversDeferred says whether a function defers a function literal that recovers.
func recoversDeferred(f *ast.FuncDecl) bool {
	found := false
	ast.Inspect(f.Body, func(n ast.Node) bool {
		if d, ok := n.(*ast.DeferStmt); ok {
			lit, ok := d.Call.Fun.(*ast.FuncLit)
			found = found || ok && calls(lit, "recover")
		}
		return !found
	})
	return found
}

func TestPowerThatGoesIsAPanicThatTheFaceRecovers(t *testing.T) {
	funcs := allFuncsOf(t, "l11_dev.go")
	for _, name := range []string{"DevProgram", "DevErase"} {
		if funcs[name] == nil {
			t.Fatal("there is no", name)
		}
		panics := slices.ContainsFunc(reachedFrom(funcs, name), func(f *ast.FuncDecl) bool { return calls(f.Body, "panic") })
		if !panics {
			t.Error(name, "reaches no panic")
		}
		// The face is the function itself, or what it hands all its work to.
		face, inner := slices.Clone(funcs[name]), namedIn(funcs[name][0])
		for used := range inner {
			face = append(face, funcs[used]...)
		}
		if !slices.ContainsFunc(face, recoversDeferred) {
			t.Error(name, "has no deferred recover at its face")
		}
	}
}

// cutsByThree says whether a piece of the program cuts a slice by three indexes.
func cutsByThree(in ast.Node) bool {
	found := false
	ast.Inspect(in, func(n ast.Node) bool {
		if s, ok := n.(*ast.SliceExpr); ok {
			found = found || s.Slice3
		}
		return !found
	})
	return found
}

func TestRecordsAreCutByThreeIndexes(t *testing.T) {
	funcs := allFuncsOf(t, "l12_rec.go")
	if funcs["GetRec"] == nil {
		t.Fatal("there is no GetRec")
	}
	if !slices.ContainsFunc(reachedFrom(funcs, "GetRec"), func(f *ast.FuncDecl) bool { return cutsByThree(f.Body) }) {
		t.Error("GetRec cuts no bytes by three indexes")
	}
}

// goesOnByLabel says whether a function has a loop with a label, and goes on with it by that.
func goesOnByLabel(f *ast.FuncDecl) bool {
	found := false
	ast.Inspect(f.Body, func(n ast.Node) bool {
		s, ok := n.(*ast.LabeledStmt)
		if !ok {
			return true
		}
		_, isFor := s.Stmt.(*ast.ForStmt)
		_, isRange := s.Stmt.(*ast.RangeStmt)
		ast.Inspect(s.Stmt, func(n ast.Node) bool {
			b, ok := n.(*ast.BranchStmt)
			found = found || ok && (isFor || isRange) && b.Tok == token.CONTINUE && b.Label != nil && b.Label.Name == s.Label.Name
			return true
		})
		return true
	})
	return found
}

func TestTheLoopOverBlocksGoesOnByItsLabel(t *testing.T) {
	funcs := allFuncsOf(t, "l13_log.go")
	if funcs["Write"] == nil {
		t.Fatal("there is no Write")
	}
	if !slices.ContainsFunc(reachedFrom(funcs, "Write"), goesOnByLabel) {
		t.Error("Write has no loop that goes on by its label")
	}
}

// structsOfANumber answers the structs of one file of the program that have numbers, and nothing else.
func structsOfANumber(t *testing.T, name string) []string {
	t.Helper()
	l := []string{}
	for of, fields := range structsOf(t, name) {
		other := slices.ContainsFunc(fields.Fields.List, func(field *ast.Field) bool {
			is, ok := field.Type.(*ast.Ident)
			return !ok || is.Name != "int"
		})
		if !other {
			l = append(l, of)
		}
	}
	return l
}

// comparesStructs says whether a function's body holds a struct of such a type, as it writes it out, against something.
func comparesStructs(f *ast.FuncDecl, types []string) bool {
	found := false
	ast.Inspect(f.Body, func(n ast.Node) bool {
		x, ok := n.(*ast.BinaryExpr)
		if !ok || x.Op != token.EQL && x.Op != token.NEQ {
			return true
		}
		for _, side := range []ast.Expr{x.X, x.Y} {
			written, ok := ast.Unparen(side).(*ast.CompositeLit)
			if !ok {
				continue
			}
			of, ok := written.Type.(*ast.Ident)
			found = found || ok && slices.Contains(types, of.Name)
		}
		return true
	})
	return found
}

func TestMapsAreComparedAsStructsOfANumber(t *testing.T) {
	funcs, structs := allFuncsOf(t, "l14_map.go"), structsOfANumber(t, "l14_map.go")
	if funcs["AddrOf"] == nil {
		t.Fatal("there is no AddrOf")
	}
	compared := slices.ContainsFunc(reachedFrom(funcs, "AddrOf"), func(f *ast.FuncDecl) bool { return comparesStructs(f, structs) })
	if !compared {
		t.Error("AddrOf holds no structs of a number against each other")
	}
}

// genericHandedAFunction says whether a function has types that it is told, and takes a function.
func genericHandedAFunction(f *ast.FuncDecl) bool {
	return f.Type.TypeParams != nil && slices.ContainsFunc(f.Type.Params.List, func(p *ast.Field) bool {
		_, ok := p.Type.(*ast.FuncType)
		return ok
	})
}

func TestRowsAreReadByAGenericFunctionThatIsHandedAFunction(t *testing.T) {
	funcs := allFuncsOf(t, "l15_table.go")
	if funcs["GetTable"] == nil {
		t.Fatal("there is no GetTable")
	}
	if !slices.ContainsFunc(reachedFrom(funcs, "GetTable"), genericHandedAFunction) {
		t.Error("GetTable reaches no generic function that is handed a function")
	}
}

// structsOfANumberAndAText answers the structs of one file of the program that have one of each, and nothing else.
func structsOfANumberAndAText(t *testing.T, name string) []string {
	t.Helper()
	l := []string{}
	for of, fields := range structsOf(t, name) {
		has := []string{}
		for _, field := range fields.Fields.List {
			if is, ok := field.Type.(*ast.Ident); ok {
				has = append(has, slices.Repeat([]string{is.Name}, max(len(field.Names), 1))...)
			}
		}
		slices.Sort(has)
		if slices.Equal(has, []string{"int", "string"}) && len(fields.Fields.List) == 2 {
			l = append(l, of)
		}
	}
	return l
}

// mapsBy says whether a function's body makes a map whose keys are of such a type.
func mapsBy(f *ast.FuncDecl, types []string) bool {
	found := false
	ast.Inspect(f.Body, func(n ast.Node) bool {
		if m, ok := n.(*ast.MapType); ok {
			key, ok := m.Key.(*ast.Ident)
			found = found || ok && slices.Contains(types, key.Name)
		}
		return !found
	})
	return found
}

func TestWhatIsThereStandsInAMapByAStructOfANumberAndAText(t *testing.T) {
	funcs, structs := allFuncsOf(t, "l16_image.go"), structsOfANumberAndAText(t, "l16_image.go")
	if funcs["Save"] == nil {
		t.Fatal("there is no Save")
	}
	if !slices.ContainsFunc(reachedFrom(funcs, "Save"), func(f *ast.FuncDecl) bool { return mapsBy(f, structs) }) {
		t.Error("Save makes no map by a struct of a number and a text")
	}
}

// errorsOf answers the errors that stand at package level in one file of the program, made by errors.New.
func errorsOf(t *testing.T, name string) []string {
	t.Helper()
	l := []string{}
	for _, d := range declsOf(t, name) {
		of, ok := d.(*ast.GenDecl)
		if !ok {
			continue
		}
		for _, s := range of.Specs {
			v, ok := s.(*ast.ValueSpec)
			if ok && len(v.Names) == 1 && len(v.Values) == 1 && callsOf(v.Values[0], "errors", "New") != nil {
				l = append(l, v.Names[0].Name)
			}
		}
	}
	return l
}

// callsOf answers the first call of a function of the library in a piece of the program.
func callsOf(in ast.Node, from, name string) *ast.CallExpr {
	var found *ast.CallExpr
	ast.Inspect(in, func(n ast.Node) bool {
		c, ok := n.(*ast.CallExpr)
		if !ok || found != nil {
			return found == nil
		}
		of, ok := c.Fun.(*ast.SelectorExpr)
		if !ok || of.Sel.Name != name {
			return true
		}
		if x, ok := of.X.(*ast.Ident); ok && x.Name == from {
			found = c
		}
		return found == nil
	})
	return found
}

// asksByIs says whether a function asks by errors.Is for one of these errors.
func asksByIs(f *ast.FuncDecl, named []string) bool {
	c := callsOf(f.Body, "errors", "Is")
	if c == nil || len(c.Args) != 2 {
		return false
	}
	target, ok := c.Args[1].(*ast.Ident)
	return ok && slices.Contains(named, target.Name)
}

func TestWhatCannotBeLoadedIsAnErrorThatIsWrapped(t *testing.T) {
	funcs, named := allFuncsOf(t, "l17_mount.go"), errorsOf(t, "l17_mount.go")
	if funcs["LoadAt"] == nil {
		t.Fatal("there is no LoadAt")
	}
	reached := reachedFrom(funcs, "LoadAt")
	if !slices.ContainsFunc(reached, func(f *ast.FuncDecl) bool { return asksByIs(f, named) }) {
		t.Error("LoadAt asks for no named error by errors.Is")
	}
	wraps := []string{}
	for _, f := range funcs["Unwrap"] {
		if of, ok := f.Recv.List[0].Type.(*ast.Ident); ok {
			wraps = append(wraps, of.Name)
		}
	}
	wrapped := slices.ContainsFunc(reached, func(f *ast.FuncDecl) bool {
		used := namedIn(f)
		return f.Name.Name != "Unwrap" && slices.ContainsFunc(wraps, func(of string) bool { return used[of] })
	})
	if !wrapped {
		t.Error("LoadAt wraps no error by a type of its own")
	}
}
