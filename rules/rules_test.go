// Package rules holds the program's packages against the rules of the language and the map of the layers.
package rules

import (
	"bytes"
	"go/ast"
	"go/format"
	"go/parser"
	"go/token"
	"os"
	"path/filepath"
	"slices"
	"strconv"
	"strings"
	"testing"
)

const (
	root    = ".."
	module  = "signpost/"
	library = " bytes cmp container/heap errors iter maps math math/bits slices sort strconv strings sync sync/atomic unicode unicode/utf8 "
	// not packages of the program
	apart = " sharedtests rules "
)

// layers are the packages of the map, from the lowest up, each with those that it calls beside api.
func layers() []struct{ name, calls string } {
	return []struct{ name, calls string }{
		{"api", ""},
		{"octet", ""},
		{"sha", "octet"},
		{"ident", "sha"},
		{"metric", "ident"},
		{"span", "ident"},
		{"addr", "octet"},
		{"draw", ""},
		{"contact", "octet metric addr"},
		{"label", ""},
		{"service", "ident label"},
		{"inst", "octet label"},
		{"roster", "octet inst"},
		{"clock", ""},
		{"wire", "octet contact roster"},
		{"timers", "clock"},
		{"ring", ""},
		{"bag", "ring"},
		{"recent", ""},
		{"bucket", "contact recent"},
		{"table", "span contact clock bucket"},
		{"decay", "metric inst clock"},
		{"store", "ident metric roster clock"},
		{"lease", "service inst clock"},
		{"txn", "addr clock wire timers"},
		{"serve", "wire table decay store"},
		{"short", "metric contact"},
		{"fruit", "ident roster"},
		{"quest", "roster short fruit"},
		{"chore", "quest"},
		{"header", "octet"},
		{"dname", "octet label"},
		{"rr", "octet dname"},
		{"inquiry", "service header rr"},
		{"reply", "header dname rr inquiry"},
		{"choose", "draw inst rr"},
		{"waiting", "inquiry"},
		{"gate", "draw roster inquiry reply choose"},
		{"node", "span addr draw contact service roster wire table store lease txn serve quest chore waiting gate"},
		{"field", "service clock wire bag node"},
		{"script", "octet ident draw label service field"},
		{"judge", "ident contact service inst clock rr reply node field"},
		{"box", "field"},
	}
}

type source struct {
	folder, path string
	text         []byte
	tree         *ast.File
	places       *token.FileSet
}

// folders are the folders of the program's packages.
func folders(t *testing.T) []string {
	entries, err := os.ReadDir(root)
	if err != nil {
		t.Fatal(err)
	}
	var out []string
	for _, e := range entries {
		if e.IsDir() && !strings.HasPrefix(e.Name(), ".") && !strings.Contains(apart, " "+e.Name()+" ") {
			out = append(out, e.Name())
		}
	}
	return out
}

// sources are the program's files but for its tests.
func sources(t *testing.T) []source {
	var out []source
	for _, folder := range folders(t) {
		paths, _ := filepath.Glob(filepath.Join(root, folder, "*.go"))
		for _, path := range paths {
			if strings.HasSuffix(path, "_test.go") {
				continue
			}
			text, err := os.ReadFile(path)
			if err != nil {
				t.Fatal(err)
			}
			places := token.NewFileSet()
			tree, err := parser.ParseFile(places, path, text, parser.ParseComments)
			if err != nil {
				t.Fatal(err)
			}
			out = append(out, source{folder, path, text, tree, places})
		}
	}
	return out
}

func TestLayersAreThere(t *testing.T) {
	have := folders(t)
	for _, l := range layers() {
		if !slices.Contains(have, l.name) {
			t.Errorf("no package %s", l.name)
		}
	}
}

func TestImports(t *testing.T) {
	calls := map[string][]string{}
	for _, l := range layers() {
		calls[l.name] = append(strings.Fields(l.calls), "api")
	}
	for _, s := range sources(t) {
		for _, i := range s.tree.Imports {
			path, _ := strconv.Unquote(i.Path.Value)
			name, own := strings.CutPrefix(path, module)
			if !own && !strings.Contains(library, " "+path+" ") {
				t.Errorf("%s imports %s", s.path, path)
			}
			if calls[name] != nil && calls[s.folder] != nil && !slices.Contains(calls[s.folder], name) {
				t.Errorf("%s: layer %s calls %s", s.path, s.folder, name)
			}
		}
	}
}

func TestLibraryNames(t *testing.T) {
	allowed := " Mutex RWMutex WaitGroup Once "
	for _, s := range sources(t) {
		ast.Inspect(s.tree, func(n ast.Node) bool {
			x, ok := n.(*ast.SelectorExpr)
			if !ok {
				return true
			}
			p, ok := x.X.(*ast.Ident)
			if ok && p.Name == "iter" && strings.HasPrefix(x.Sel.Name, "Pull") || ok && p.Name == "sync" && !strings.Contains(allowed, " "+x.Sel.Name+" ") {
				t.Errorf("%s uses %s.%s", s.path, p.Name, x.Sel.Name)
			}
			return true
		})
	}
}

func TestLayout(t *testing.T) {
	for _, s := range sources(t) {
		if laid, err := format.Source(s.text); err != nil || !bytes.Equal(laid, s.text) {
			t.Errorf("%s is not laid out as gofmt does", s.path)
		}
		for _, group := range s.tree.Comments {
			for _, c := range group.List {
				if strings.HasPrefix(c.Text, "//go:") || strings.HasPrefix(c.Text, "// +build") {
					t.Errorf("%s has the line %s", s.path, c.Text)
				}
			}
		}
		for _, d := range s.tree.Decls {
			f, ok := d.(*ast.FuncDecl)
			if ok && s.places.Position(f.End()).Line-s.places.Position(f.Pos()).Line >= 60 {
				t.Errorf("%s: %s is too long", s.path, f.Name.Name)
			}
		}
	}
}

func TestOnlyGoFiles(t *testing.T) {
	for _, folder := range folders(t) {
		entries, err := os.ReadDir(filepath.Join(root, folder))
		if err != nil {
			t.Fatal(err)
		}
		for _, e := range entries {
			if e.IsDir() || !strings.HasSuffix(e.Name(), ".go") {
				t.Errorf("%s/%s is no Go file", folder, e.Name())
			}
		}
	}
}

func TestPackageVariables(t *testing.T) {
	for _, s := range sources(t) {
		for _, d := range s.tree.Decls {
			g, ok := d.(*ast.GenDecl)
			if !ok || g.Tok != token.VAR {
				continue
			}
			for _, spec := range g.Specs {
				checkVariable(t, s, spec.(*ast.ValueSpec))
			}
		}
	}
}

func checkVariable(t *testing.T, s source, v *ast.ValueSpec) {
	name := s.path + ": " + v.Names[0].Name
	if len(v.Values) != len(v.Names) {
		t.Errorf("%s has no value of its own", name)
	}
	ast.Inspect(v, func(n ast.Node) bool {
		switch x := n.(type) {
		case *ast.MapType, *ast.FuncType, *ast.FuncLit:
			t.Errorf("%s is a map or a function", name)
		case *ast.CallExpr:
			p, ok := x.Fun.(*ast.SelectorExpr)
			if !ok || p.Sel.Name != "New" {
				t.Errorf("%s is made by a call", name)
			}
		}
		return true
	})
}
