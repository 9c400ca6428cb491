package tests

import (
	"bytes"
	"go/ast"
	"go/format"
	"go/parser"
	"go/token"
	"os"
	"path/filepath"
	"strings"
	"testing"
)

const allowedImports = " bytes cmp container/heap errors iter maps math math/bits slices sort strconv strings sync sync/atomic unicode unicode/utf8 "

func TestProgramKeepsToItsLanguage(t *testing.T) {
	files, err := filepath.Glob("../impl/*")
	if err != nil || len(files) == 0 {
		t.Fatal("no files", err)
	}
	for _, name := range files {
		if !strings.HasSuffix(name, ".go") {
			t.Error(name, "is no Go file")
			continue
		}
		checkFile(t, name)
	}
}

func checkFile(t *testing.T, name string) {
	t.Helper()
	text, err := os.ReadFile(name)
	if err != nil {
		t.Fatal(err)
	}
	if nice, err := format.Source(text); err != nil || !bytes.Equal(nice, text) {
		t.Error(name, "has not gofmt's layout", err)
	}
	if bytes.Contains(text, []byte("//go:")) || bytes.Contains(text, []byte("// +build")) {
		t.Error(name, "has a line for the toolchain")
	}
	places := token.NewFileSet()
	file, err := parser.ParseFile(places, name, text, 0)
	if err != nil {
		t.Fatal(err)
	}
	for _, i := range file.Imports {
		if !strings.Contains(allowedImports, " "+strings.Trim(i.Path.Value, "\"")+" ") {
			t.Error(name, "imports", i.Path.Value)
		}
	}
	for _, d := range file.Decls {
		f, ok := d.(*ast.FuncDecl)
		if ok && places.Position(f.End()).Line-places.Position(f.Pos()).Line >= 60 {
			t.Error(name, f.Name.Name, "is too long")
		}
	}
}
