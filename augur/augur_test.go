package augur_test

import (
	"fmt"
	"strings"
	"testing"

	"augur/api"
)

// The net of the document's session.
const weather = `net
var cloudy { no yes }
var rain { no yes }
var wet { no yes }
cloudy : 1/2 1/2 ;
rain | cloudy { no : 4/5 1/5 ; yes : 0.2 0.8 ; }
wet | rain { no : 0.9 0.1 ; else : 1/10 9/10 ; }
end
`

// A net in which something can't be: b is never z, and c is yes just where b is y.
const strict = `net
var c { no yes }
var a { x y }
var b { x y z }
b | a { x : 1/2 1/2 0 ; y : 1 0 0 ; }
c | b { y : 0 1 ; else : 1 0 ; }
a : 1/3 2/3 ;
end
`

// The program of the document's example 8.
const game = `program
let x ~ range 1 3;
let y ~ flip 1/4;
observe x > y + 1;
return 6 / (x - y - 1);
end
`

func TestDocumentA2(t *testing.T) {
	questions := []string{
		"prob wet=yes => 1/2",
		"ask rain | wet=yes => no : 1/10 / yes : 9/10",
		"best wet=yes => yes yes yes : 9/25",
		"do rain=yes | wet | => no : 1/10 / yes : 9/10",
		"apart cloudy | wet | rain => yes",
		"apart cloudy | wet | => no",
		"door rain wet | cloudy => back yes front no",
		"door cloudy wet | rain => back no front yes",
		"adjust rain=yes wet | cloudy => 1/10 9/10",
		"tree => cloudy rain / rain wet",
		"know wet=yes => 1/2",
		"margin rain => 1/10 9/10",
		"forget wet => 1",
		"margin rain => 1/2 1/2",
		"prob wet=maybe => error 6",
		"foo => bad",
	}
	text, want := weather, "ok\n"
	for _, q := range questions {
		line, answer, _ := strings.Cut(q, " => ")
		text += line + "\n"
		want += strings.ReplaceAll(answer, " / ", "\n") + "\n"
	}
	answered(t, text, want)
	answered(t, strings.TrimSuffix(text, "\n"), want)
}

func TestLinesA1(t *testing.T) {
	answered(t, "", "")
	answered(t, "\n", "bad\n")
	answered(t, "\n\n", "bad\nbad\n")
	answered(t, "run", "error 16\n")
	answered(t, "run\n", "error 16\n")
	answered(t, "run\n\nrun", "error 16\nbad\nerror 16\n")
	answered(t, "\nrun", "bad\nerror 16\n")
	answered(t, "run\r\nrun", "bad\nerror 16\n")
	answered(t, "run\x00\n\xff\xfe\n", "bad\nbad\n")
}

func TestTooLongA1(t *testing.T) {
	answered(t, strings.Repeat("x\n", 500), strings.Repeat("bad\n", 500))
	answered(t, strings.Repeat("\n", 500), strings.Repeat("bad\n", 500))
	answered(t, strings.Repeat("x\n", 499)+"x", strings.Repeat("bad\n", 500))
	answered(t, strings.Repeat("x\n", 500)+"x", "too long\n")
	answered(t, strings.Repeat("x\n", 501), "too long\n")
	answered(t, strings.Repeat("\n", 501), "too long\n")
	answered(t, strings.Repeat("x", api.MaxText), "bad\n")
	answered(t, strings.Repeat("x", api.MaxText-1)+"\n", "bad\n")
	answered(t, strings.Repeat("x", api.MaxText)+"\n", "too long\n")
	answered(t, strings.Repeat("x", api.MaxText+1), "too long\n")
	answered(t, strings.Repeat("\n", 3*api.MaxText), "too long\n")
	answered(t, weather+strings.Repeat("prob\n", 493), "too long\n")
	answered(t, weather+strings.Repeat("prob\n", 492), "ok\n"+strings.Repeat("1\n", 492))
	answered(t, weather+strings.Repeat(" ", api.MaxText), "too long\n")
	answered(t, "net\nvar a { x } a : 1 ;"+strings.Repeat("\n", 497)+"end\nprob", "ok\n1\n")
	answered(t, "net\nvar a { x } a : 1 ;"+strings.Repeat("\n", 498)+"end\nprob", "too long\n")
}

func TestTextsA1(t *testing.T) {
	small := "var a { x y }\na : 1/4 3/4 ;"
	shown := "var a { x y }\na : 1/4 3/4 ;\n"
	answered(t, lines("net", small, "end", "show"), "ok\n"+shown)
	answered(t, lines("net", small, "", "", "end", "", "show"), "ok\nbad\n"+shown)
	answered(t, "net\nvar\na\n{\nx\ny\n}\na\n:\n1/4\n3/4\n;\nend\nshow", "ok\n"+shown)
	answered(t, "net\n"+small, "ok\n")
	answered(t, "net\n"+small+"\nend", "ok\n")
	answered(t, "program\nreturn 1;", "ok\n")
	answered(t, "program\nlet\nx\n=\n1\n2;\nend", "error 4\n")
	answered(t, "program\nlet\nx\n=\n12;return\nx;\nend\nrun", "ok\n12 : 1\nstuck : 0\nlost : 0\n")
	// An end ends the one text that it stands in, and is no line of its own.
	answered(t, lines("end", "net", small, "end", "end", "prob"), "bad\nok\nbad\n1\n")
	answered(t, lines("end x", "net", small, "end", "show |"), "bad\nok\nbad\n")
	// What else stands in a text is of that text.
	answered(t, lines("net", "net", "end", "show"), "error 6\nerror 16\n")
	answered(t, lines("net", "program", small, "end"), "error 6\n")
	answered(t, lines("program", "net", "end", "program", "program", "end"), "error 5\nerror 5\n")
	answered(t, lines("program", "run", "return 1;", "end", "run"), "error 4\nerror 16\n")
	for _, no := range []string{" end", "end ", "END", "end\t"} {
		answered(t, lines("program", "return 1;", no, "show"), "error 4\n")
	}
	for _, no := range []string{" net", "net ", "Net", "net net", "net |", "program ", " program", "program |", "programs", "net\t"} {
		answered(t, lines(no, "show"), "bad\nerror 16\n")
	}
	// Of no lines at all: the text ends too early.
	answered(t, "net", "error 5\n")
	answered(t, "net\n", "error 5\n")
	answered(t, "net\nend\n", "error 5\n")
	answered(t, "program", "error 5\n")
	answered(t, "program\nend\nrun", "error 5\nerror 16\n")
}

func TestFaultsOfNetsA1(t *testing.T) {
	for text, want := range map[string]api.Errno{
		"var a { x } a : 1.. ;":     api.ErrForm,
		"var a { p q r s t }":       api.ErrLimit,
		"var a { x } a : 1/0 ;":     api.ErrZero,
		"var a { x } a = 1 ;":       api.ErrWord,
		"var a { x } a : 1":         api.ErrShort,
		"var a { x } b : 1 ;":       api.ErrName,
		"var a { x x }":             api.ErrDouble,
		"var a { x } a : 1 1 ;":     api.ErrCount,
		"var a { x }":               api.ErrCount,
		"var a { x y } a : 1/2 1 ;": api.ErrSum,
		"var a { x } var b { x } a | b { x : 1 ; } b | a { x : 1 ; }": api.ErrCycle,
	} {
		answered(t, lines("net", text, "end"), fmt.Sprintf("error %d\n", want))
	}
}

func TestFaultsOfProgramsA1(t *testing.T) {
	for text, want := range map[string]api.Errno{
		"return 1000;":                              api.ErrLimit,
		"let x ~ flip 1/0; return x;":               api.ErrZero,
		"return 01;":                                api.ErrWord,
		"return 1":                                  api.ErrShort,
		"return " + strings.Repeat("(", 17):         api.ErrDeep,
		"return x;":                                 api.ErrName,
		"let x = 1; let x = 2; return x;":           api.ErrDouble,
		"fn f(a) { return a; } return f();":         api.ErrCount,
		"let x ~ flip 3/2; return x;":               api.ErrSum,
		"let x ~ range 3 1; return x;":              api.ErrLimit,
		"repeat 13 { let x ~ flip 1/2; } return 1;": api.ErrMany,
		"repeat 16 { repeat 16 { repeat 16 { let x = 1; let y = 2; } } } return 1;": api.ErrLong,
	} {
		answered(t, lines("program", text, "end"), fmt.Sprintf("error %d\n", want))
	}
}

func TestFaultLeavesAllA1(t *testing.T) {
	before := weather + game + lines("know wet=yes")
	told := "ok\nok\n1/2\n"
	after := lines("margin rain", "prob rain=no", "after", "forget wet", "forget wet")
	stays := "1/10 9/10\n1/2\n3 : 3/7\n6 : 4/7\n1\nerror 16\n"
	answered(t, before+after, told+stays)
	answered(t, before+lines("net", "var a { x }", "end")+after, told+"error 8\n"+stays)
	answered(t, before+lines("net", "end")+after, told+"error 5\n"+stays)
	answered(t, before+lines("program", "return x;", "end")+after, told+"error 6\n"+stays)
	answered(t, before+lines("program", "return 1", "end")+after, told+"error 5\n"+stays)
	// One of the two is no matter to the other.
	answered(t, before+lines("program", "return 1;", "end", "margin rain", "run"), told+"ok\n1/10 9/10\n1 : 1\nstuck : 0\nlost : 0\n")
	answered(t, before+lines("net", "var a { x } a : 1 ;", "end", "after", "show"), told+"ok\n3 : 3/7\n6 : 4/7\nvar a { x }\na : 1 ;\n")
}

func TestNetHasItsTreeA1(t *testing.T) {
	told := "ok\n1/2\n"
	answered(t, weather+"know wet=yes\n"+weather+"margin rain\nforget wet\nknow cloudy=no\n", told+"ok\n1/2 1/2\nerror 16\n1/2\n")
	answered(t, weather+"know wet=yes\n"+strict+"margin a\ntree\nmargin wet\n", told+"ok\n1/3 2/3\nc b\na b\nerror 6\n")
}
