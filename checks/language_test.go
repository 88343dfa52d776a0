package checks

import (
	"bytes"
	"go/ast"
	"go/format"
	"go/parser"
	"go/token"
	"os"
	"path/filepath"
	"slices"
	"strconv"
	"strings"
	"testing"
)

// The library's packages that the program may lean on.
var allowed = strings.Fields("bytes cmp container/heap errors iter maps math math/bits slices sort strconv strings sync sync/atomic unicode unicode/utf8")

// Which layers each layer calls, as the document's map has it.
var calls = map[string]string{
	"api": "", "blocks": "api", "inode": "api blocks", "path": "api", "dir": "api inode", "perm": "api",
	"tree": "api inode path dir perm", "desc": "api tree", "fault": "api tree desc", "getopt": "api",
	"buf": "api fault", "number": "api", "glob": "api", "regex": "api", "walk": "api fault",
	"text": "api number", "order": "api", "page": "api", "expr": "api fault number regex",
	"sed": "api number regex", "find": "api path perm number glob", "print": "api number", "args": "api",
	"copy":   "api tool path perm fault getopt buf number",
	"attr":   "api aid path perm fault number walk page expr",
	"filter": "api tool fault getopt buf number glob text sed print",
	"sift":   "api aid fault getopt buf number regex walk text order expr find print args",
	"box":    "api tool path tree desc fault copy attr filter sift",
	"script": "api perm tree number print box",
}

// eachFile: the program's own Go files, without tests.
func eachFile(t *testing.T, see func(pkg, file string, text []byte, fset *token.FileSet, a *ast.File)) {
	t.Helper()
	files, err := filepath.Glob("../*/*.go")
	if err != nil || len(files) == 0 {
		t.Fatal("no files", err)
	}
	for _, file := range files {
		if strings.HasSuffix(file, "_test.go") {
			continue
		}
		text, err := os.ReadFile(file)
		if err != nil {
			t.Fatal(err)
		}
		fset := token.NewFileSet()
		a, err := parser.ParseFile(fset, file, text, parser.ParseComments)
		if err != nil {
			t.Fatal(err)
		}
		see(filepath.Base(filepath.Dir(file)), file, text, fset, a)
	}
}

func TestEachLayerIsThere(t *testing.T) {
	seen := map[string]bool{}
	eachFile(t, func(pkg, file string, text []byte, fset *token.FileSet, a *ast.File) { seen[pkg] = true })
	for pkg := range calls {
		if !seen[pkg] {
			t.Errorf("no package %s", pkg)
		}
	}
}

func TestImports(t *testing.T) {
	eachFile(t, func(pkg, file string, text []byte, fset *token.FileSet, a *ast.File) {
		for _, im := range a.Imports {
			p, _ := strconv.Unquote(im.Path.Value)
			own, isOwn := strings.CutPrefix(p, "tinsel/")
			below, isLayer := calls[pkg]
			if isOwn && isLayer && !slices.Contains(strings.Fields(below), own) {
				t.Errorf("%s: layer %s does not call %s", file, pkg, own)
			}
			if !isOwn && !slices.Contains(allowed, p) {
				t.Errorf("%s: import %s", file, p)
			}
		}
	})
}

func TestLayout(t *testing.T) {
	eachFile(t, func(pkg, file string, text []byte, fset *token.FileSet, a *ast.File) {
		if good, err := format.Source(text); err != nil || !bytes.Equal(good, text) {
			t.Errorf("%s: not gofmt's layout %v", file, err)
		}
		for _, g := range a.Comments {
			for _, c := range g.List {
				if strings.HasPrefix(c.Text, "//go:") || strings.HasPrefix(c.Text, "// +build") {
					t.Errorf("%s: %s", file, c.Text)
				}
			}
		}
		for _, d := range a.Decls {
			f, ok := d.(*ast.FuncDecl)
			if ok && fset.Position(f.End()).Line-fset.Position(f.Pos()).Line >= 65 {
				t.Errorf("%s: func %s is too long", file, f.Name.Name)
			}
		}
	})
}
