package augur_test

import (
	"fmt"
	"strings"
	"sync"
	"testing"

	"augur/api"
	"augur/augur"
)

func TestBadA2(t *testing.T) {
	all := weather + game
	for _, bad := range []string{
		"", " ", "|", "=", "foo", "Show", "SHOW", "showtree", "end", "a=b",
		"show ", " show", "show |", "show wet", "show wet=yes",
		"prob ", "prob  wet=yes", " prob wet=yes", "prob wet=yes ", "prob wet", "prob wet=yes rain", "prob wet=yes=no", "prob ==", "prob |", "prob wet=yes |", "prob | wet=yes", "prob\twet=yes", "probwet=yes",
		"best wet", "best |", "best wet=yes rain", "best ", "best  rain=no",
		"ask", "ask ", "ask rain", "ask rain wet=yes", "ask rain |wet=yes", "ask rain| wet=yes", "ask rain | wet", "ask rain=no | wet=yes", "ask rain | wet=yes |", "ask | |", "ask rain | | wet=yes", "ask rain |  wet=yes", "ask rain  | wet=yes", "ask rain | wet=yes ", "ask | ", "ask rain || wet=yes",
		"do", "do |", "do rain=yes", "do rain=yes | wet", "do rain=yes wet | |", "do rain | wet |", "do rain=yes | wet=no |", "do rain=yes | wet | cloudy", "do rain=yes | wet | |", "do | | | |", "do rain=yes | wet | ",
		"apart", "apart |", "apart cloudy | wet", "apart cloudy wet rain", "apart cloudy | wet | rain |", "apart | | |", "apart cloudy=no | wet | rain", "apart cloudy | wet=no |", "apart cloudy | wet | rain=yes", "apart | |  rain",
		"door", "door |", "door rain |", "door rain wet", "door rain wet cloudy |", "door rain | wet", "door rain wet | |", "door rain=yes wet |", "door rain wet=yes |", "door rain wet | cloudy=no", "door rain wet | ", "door | rain wet",
		"adjust", "adjust |", "adjust rain=yes wet", "adjust rain wet | cloudy", "adjust wet rain=yes | cloudy", "adjust rain=yes wet=no | cloudy", "adjust rain=yes | wet", "adjust rain=yes wet cloudy |", "adjust rain=yes wet | cloudy=no", "adjust rain=yes wet | |", "adjust rain=yes cloudy=no wet |",
		"tree ", "tree cloudy", "tree |",
		"know", "know ", "know wet", "know |", "know wet=yes rain=no", "know wet=yes |", "know wet=yes=", "know | wet=yes",
		"forget", "forget ", "forget wet=yes", "forget |", "forget wet rain", "forget wet |",
		"margin", "margin ", "margin rain=no", "margin |", "margin rain wet", "margin rain |",
		"run ", "run now", "run |", " run", "after ", "after x", "after |", "diagram ", "diagram x", "diagram |",
	} {
		answered(t, bad+"\n", "bad\n")
		answered(t, all+bad+"\nrun\n", "ok\nok\nbad\n3 : 1/4\n6 : 1/3\nstuck : 0\nlost : 5/12\n")
	}
}

func TestNothingThereA2(t *testing.T) {
	ofNet := []string{"show", "prob", "prob a=b", "prob = x=", "best", "best sun=low", "ask |", "ask a a | b=c b=c", "do | |", "do a=b | a | a=b", "apart | |", "apart a | a | a", "door a a |", "door a b | c c", "adjust a=b a |", "adjust = a | b", "tree", "know a=b", "know =", "forget a", "margin a|b", "margin ||"}
	ofProgram := []string{"run", "after", "diagram"}
	for _, q := range ofNet {
		answered(t, q, "error 16\n")
		answered(t, lines("net", "var a { x }", "end", q), "error 8\nerror 16\n")
		answered(t, game+q, "ok\nerror 16\n")
	}
	for _, q := range ofProgram {
		answered(t, q, "error 16\n")
		answered(t, lines("program", "return x;", "end", q), "error 6\nerror 16\n")
		answered(t, weather+q, "ok\nerror 16\n")
	}
	answered(t, "prob\n"+weather+"prob\n", "error 16\nok\n1\n")
}

func TestShowA2(t *testing.T) {
	answered(t, weather+"show\n", "ok\n"+lines("var cloudy { no yes }", "var rain { no yes }", "var wet { no yes }", "cloudy : 1/2 1/2 ;", "rain | cloudy {", " no : 4/5 1/5 ;", " yes : 1/5 4/5 ;", "}", "wet | rain {", " no : 9/10 1/10 ;", " yes : 1/10 9/10 ;", "}"))
	// Rows that `else` tells are written out: then the text is too long.
	text := "net\n"
	for v := range 7 {
		text += fmt.Sprintf("var v%d { a b c d }\nv%d : 1 0 0 0 ;\n", v, v)
	}
	text += "var w { a b c d }\nw | v0 v1 v2 v3 v4 v5 v6 { else : 0 1/2 1/2 0 ; }\nend\n"
	answered(t, text+"show\nprob w=b\n", "ok\nerror 2\n1/2\n")
}

func TestChancesA2(t *testing.T) {
	eachAnswered(t, weather, "ok\n",
		"prob => 1",
		"prob wet=yes => 1/2",
		"prob wet=yes rain=no cloudy=yes => 1/100",
		"prob cloudy=yes wet=yes rain=no => 1/100",
		"best => no no no : 9/25",
		"best wet=yes => yes yes yes : 9/25",
		"best rain=no wet=yes => no no yes : 1/25",
		"ask | => : 1",
		"ask | wet=yes => : 1",
		"ask rain | => no : 1/2 / yes : 1/2",
		"ask rain cloudy | wet=yes => no no : 2/25 / no yes : 9/50 / yes no : 1/50 / yes yes : 18/25",
		"ask cloudy rain | wet=yes => no no : 2/25 / no yes : 9/50 / yes no : 1/50 / yes yes : 18/25",
		"ask wet | rain=yes cloudy=no => no : 1/10 / yes : 9/10",
		"do | | => : 1",
		"do rain=yes | | => : 1",
		"do | wet | => no : 1/2 / yes : 1/2",
		"do | wet | cloudy=yes => no : 13/50 / yes : 37/50",
		"do rain=yes | cloudy | => no : 1/2 / yes : 1/2",
		"do rain=yes | cloudy | wet=yes => no : 1/2 / yes : 1/2",
		"do rain=no wet=yes | cloudy | => no : 1/2 / yes : 1/2",
		"do wet=yes | rain | cloudy=no => no : 4/5 / yes : 1/5",
		"do rain=yes | wet cloudy | => no no : 1/20 / no yes : 9/20 / yes no : 1/20 / yes yes : 9/20",
	)
	eachAnswered(t, strict, "ok\n",
		"ask b | => x : 5/6 / y : 1/6 / z : 0",
		"ask b c | => no x : 5/6 / no y : 0 / no z : 0 / yes x : 0 / yes y : 1/6 / yes z : 0",
		"prob b=z => 0",
		"prob c=yes a=y => 0",
		"best c=yes => yes x y : 1/6",
		"best => no y x : 2/3",
	)
}

func TestGraphsA2(t *testing.T) {
	eachAnswered(t, weather, "ok\n",
		"apart | | => yes",
		"apart | wet | rain cloudy => yes",
		"apart cloudy | wet | rain => yes",
		"apart wet | cloudy | rain => yes",
		"apart cloudy | wet | => no",
		"apart rain cloudy | wet | => no",
		"apart cloudy | wet rain | => no",
		"door rain wet | => back yes front no",
		"door rain wet | cloudy => back yes front no",
		"door wet rain | cloudy => back no front no",
		"door wet cloudy | => back no front yes",
		"door cloudy rain | => back yes front no",
		"door cloudy wet | rain => back no front yes",
		"adjust rain=yes wet | => 1/10 9/10",
		"adjust rain=yes wet | cloudy => 1/10 9/10",
		"adjust wet=yes rain | => 1/10 9/10",
		"adjust wet=yes rain | cloudy => 161/962 801/962",
		"adjust cloudy=no wet | => 37/50 13/50",
		"adjust cloudy=yes wet | rain => 1/2 1/2",
		"tree => cloudy rain / rain wet",
	)
	eachAnswered(t, lines("net", "var one { x }", "one : 1 ;", "end"), "ok\n",
		"tree => one", "margin one => 1", "ask one | => x : 1", "best => x : 1", "best one=x => x : 1", "apart one | | => yes", "show => var one { x } / one : 1 ;")
}

func TestTreeA2(t *testing.T) {
	answered(t, weather+lines("margin wet", "know wet=yes", "margin wet", "know rain=no", "margin cloudy", "prob", "ask wet |", "know wet=no", "forget wet", "margin wet", "forget wet", "forget rain", "forget cloudy", "margin cloudy"),
		lines("ok", "1/2 1/2", "1/2", "0 1", "1/20", "4/5 1/5", "1", "no : 1/2", "yes : 1/2", "9/20", "1/2", "9/10 1/10", "error 16", "1", "error 16", "1/2 1/2"))
	// What can't be may be known: then nothing is likely, until one of the facts goes.
	answered(t, strict+lines("know b=z", "margin a", "margin b", "know c=no", "know b=x", "margin c", "forget b", "margin b"),
		lines("ok", "0", "error 3", "error 3", "0", "5/6", "1 0", "5/6", "1 0 0"))
}

func TestNamesA2(t *testing.T) {
	told := "ok\n"
	eachAnswered(t, weather, told,
		"prob sun=no => error 6",
		"prob wet=maybe => error 6",
		"prob =yes => error 6",
		"prob wet= => error 6",
		"prob = => error 6",
		"prob wet=yes rain=no cloudy=wet => error 6",
		"prob Wet=yes => error 6",
		"prob |=yes => error 6",
		"best wet=wet => error 6",
		"ask sun | => error 6",
		"ask || | => error 6",
		"ask no | => error 6",
		"ask rain | sun=no => error 6",
		"ask rain rain | => error 7",
		"ask rain wet rain | => error 7",
		"ask rain rain sun | wet=maybe => error 7",
		"ask rain sun rain | => error 6",
		"ask rain rain | wet=maybe => error 7",
		"ask sun sun | wet=yes wet=yes => error 6",
		"do rain=maybe | wet wet | => error 6",
		"do rain=yes | wet wet | cloudy=maybe => error 7",
		"do rain=yes | wet | cloudy=maybe => error 6",
		"apart sun | | => error 6",
		"apart rain rain | sun | => error 7",
		"apart rain | sun | wet wet => error 6",
		"apart rain | wet wet | => error 7",
		"apart rain | cloudy | wet wet => error 7",
		"apart rain | rain | wet wet => error 7",
		"door sun wet | => error 6",
		"door wet sun | => error 6",
		"door wet rain | cloudy sun => error 6",
		"door wet rain | cloudy cloudy => error 7",
		"door wet wet | cloudy cloudy => error 7",
		"door wet wet | cloudy sun => error 6",
		"adjust sun=yes wet | => error 6",
		"adjust rain=maybe wet | => error 6",
		"adjust rain=yes sun | => error 6",
		"adjust rain=yes wet | cloudy cloudy => error 7",
		"adjust rain=yes rain | cloudy cloudy => error 7",
		"know sun=yes => error 6",
		"know wet=sun => error 6",
		"know = => error 6",
		"forget sun => error 6",
		"margin sun => error 6",
		"margin yes => error 6",
		"margin wet\x00 => error 6",
		"margin we\t => error 6",
	)
}

func TestFirstErrorA2(t *testing.T) {
	eachAnswered(t, weather, "ok\n",
		"prob wet=yes wet=yes => error 7",
		"prob wet=yes wet=maybe => error 6",
		"prob wet=yes rain=no wet=no => error 7",
		"best wet=yes wet=no => error 7",
		"ask rain | rain=no => error 7",
		"ask rain | wet=no wet=no => error 7",
		"do rain=yes rain=yes | wet | => error 7",
		"do rain=no | rain | => error 7",
		"do rain=no | wet | rain=no => error 7",
		"do rain=no | wet | wet=no => error 7",
		"do rain=no | wet | cloudy=no cloudy=yes => error 7",
		"apart rain | rain | => error 11",
		"apart rain | wet | wet => error 11",
		"door rain rain | => error 11",
		"door rain wet | wet => error 11",
		"door rain wet | rain => error 11",
		"adjust rain=yes rain | => error 11",
		"adjust rain=yes wet | rain => error 11",
		"adjust rain=yes wet | wet => error 11",
		"forget wet => error 16",
	)
	eachAnswered(t, strict, "ok\n",
		"best b=z => error 3",
		"best c=yes a=y => error 3",
		"ask a | b=z => error 3",
		"ask | b=z => error 3",
		"ask b | b=z => error 7",
		"do a=y | b | c=yes => error 3",
		"do b=z | c | => no : 1 / yes : 0",
		"do b=z | c | c=yes => error 7",
		"adjust b=z c | => error 3",
		"adjust b=z c | a => error 3",
		"adjust b=y c | a => error 3",
		"adjust b=x c | a => 1 0",
	)
}

func TestProgramsA2(t *testing.T) {
	ask := func(text, want string) {
		t.Helper()
		answered(t, lines("program", text, "end", "run", "after", "diagram"), "ok\n"+strings.ReplaceAll(want, " / ", "\n")+"\n")
	}
	answered(t, game+"run\nafter\ndiagram\n", "ok\n"+lines("3 : 1/4", "6 : 1/3", "stuck : 0", "lost : 5/12", "3 : 3/7", "6 : 4/7", "knots 6 draws 2"))
	ask("return 7;", "7 : 1 / stuck : 0 / lost : 0 / 7 : 1 / knots 1 draws 0")
	ask("let x ~ range -1 1; return x * 2;", "-2 : 1/3 / 0 : 1/3 / 2 : 1/3 / stuck : 0 / lost : 0 / -2 : 1/3 / 0 : 1/3 / 2 : 1/3 / knots 4 draws 1")
	ask("let x ~ flip 1/4; let y ~ flip 1/2; return 1 / x;", "1 : 1/4 / stuck : 3/4 / lost : 0 / 1 : 1/4 / knots 3 draws 2")
	ask("let x ~ flip 1/4; observe x; return 1 / 0;", "stuck : 1/4 / lost : 3/4 / knots 3 draws 1")
	ask("observe 0; return 1;", "stuck : 0 / lost : 1 / error 3 / knots 1 draws 0")
	ask("let x ~ flip 0; return x;", "0 : 1 / stuck : 0 / lost : 0 / 0 : 1 / knots 3 draws 1")
	// Where a way is stuck for certain nothing has a chance, and there is no point to tell.
	answered(t, lines("program", "return 1 / 0;", "end", "after"), "ok\n")
	// The last program that was read is asked.
	answered(t, game+lines("run", "program", "return 1;", "end", "run"), lines("ok", "3 : 1/4", "6 : 1/3", "stuck : 0", "lost : 5/12", "ok", "1 : 1", "stuck : 0", "lost : 0"))
}

// The greatest net: eight variables of four values, each of which hangs on all ahead.
func TestGreatestA2(t *testing.T) {
	text, question := "net\n", "ask"
	for v := range api.MaxVars {
		text += fmt.Sprintf("var v%d { a b c d }\n", v)
		question += fmt.Sprintf(" v%d", api.MaxVars-1-v)
	}
	text += "v0 : 1/4 1/4 1/4 1/4 ;\n"
	for v := 1; v < api.MaxVars; v++ {
		text += fmt.Sprintf("v%d |", v)
		for u := range v {
			text += fmt.Sprintf(" v%d", u)
		}
		text += " { else : 1/4 1/4 1/4 1/4 ; }\n"
	}
	want := &strings.Builder{}
	want.WriteString("ok\n")
	for k := range 1 << 16 {
		for v := range 8 {
			want.WriteString("abcd"[k>>(14-2*v)&3:][:1] + " ")
		}
		want.WriteString(": 1/65536\n")
	}
	want.WriteString("v0 v1 v2 v3 v4 v5 v6 v7\n")
	answered(t, text+"end\n"+question+" |\ntree\n", want.String())
}

// drawnLine is a line of these names and facts, mostly of a right form.
func drawnLine(d *die, names, facts []string) string {
	some := func(l []string) string {
		s := ""
		for range d.n(4) {
			s += " " + d.of(l)
		}
		return s
	}
	n, f := " "+d.of(names), " "+d.of(facts)
	switch d.n(13) {
	case 0:
		return "prob" + some(facts)
	case 1:
		return "best" + some(facts)
	case 2:
		return "ask" + some(names) + " |" + some(facts)
	case 3:
		return "do" + some(facts) + " |" + some(names) + " |" + some(facts)
	case 4:
		return "apart" + some(names) + " |" + some(names) + " |" + some(names)
	case 5:
		return "door" + n + " " + d.of(names) + " |" + some(names)
	case 6:
		return "adjust" + f + n + " |" + some(names)
	case 7, 8:
		return "know" + f
	case 9:
		return "forget" + n
	case 10:
		return "margin" + n
	case 11:
		return d.of([]string{"show", "tree"})
	}
	return d.of([]string{"run", "after", "diagram", "net", "program", "end", "program\nlet x ~ flip 1/2; return 3 / x;\nend", "net\nvar a { x y }\na : 1/3 2/3 ;\nend"})
}

// spoilt is a line in which a byte is put, left out or doubled.
func spoilt(d *die, s string) string {
	if s == "" {
		return s
	}
	at := d.n(len(s))
	switch d.n(3) {
	case 0:
		return s[:at] + d.of([]string{" ", "|", "=", "\n", "\t", "x", " | ", "\xff"}) + s[at:]
	case 1:
		return s[:at] + s[at+1:]
	}
	return s[:at] + s[at:at+1] + s[at:]
}

func drawnSession(d *die) string {
	ofWeather, ofStrict := d.n(2) == 0, d.n(2) == 0
	var s string
	names, facts := []string{"sun", "no"}, []string{"wet=maybe", "sun=no", "=", "a=x=y"}
	if ofWeather {
		s += weather
		names = append(names, "cloudy", "rain", "wet", "cloudy", "rain", "wet", "cloudy", "rain", "wet")
		facts = append(facts, "cloudy=no", "cloudy=yes", "rain=no", "rain=yes", "wet=no", "wet=yes", "cloudy=no", "cloudy=yes", "rain=no", "rain=yes", "wet=no", "wet=yes")
	}
	if ofStrict {
		s += strict
		names = append(names, "a", "b", "c", "a", "b", "c", "a", "b", "c")
		facts = append(facts, "a=x", "a=y", "b=x", "b=y", "b=z", "c=no", "c=yes", "a=x", "a=y", "b=x", "b=y", "c=no", "c=yes")
	}
	s += d.of([]string{"", game})
	for range d.n(15) {
		line := drawnLine(d, names, facts)
		if d.n(6) == 0 {
			line = spoilt(d, line)
		}
		s += line + "\n"
	}
	if d.n(8) == 0 {
		s = spoilt(d, s)
	}
	if d.n(8) == 0 {
		s = strings.TrimSuffix(s, "\n")
	}
	return s
}

func TestDrawnSessionsA2(t *testing.T) {
	d := die(16)
	for range 4000 {
		s := drawnSession(&d)
		if got, want := augur.Session(s), clerkOf(s); got != want {
			t.Fatalf("%q: %q, not %q", s, got, want)
		}
	}
}

// What is answered hangs on the text alone: nothing is kept from one session to the next, nor shared by two.
func TestSessionsAloneA1(t *testing.T) {
	d := die(61)
	texts := make([]string, 40)
	for i := range texts {
		texts[i] = drawnSession(&d)
	}
	var w sync.WaitGroup
	told := make([]string, 4*len(texts))
	for i := range told {
		w.Go(func() { told[i] = augur.Session(texts[i%len(texts)]) })
	}
	w.Wait()
	for i, got := range told {
		if want := clerkOf(texts[i%len(texts)]); got != want {
			t.Fatalf("%q: %q, not %q", texts[i%len(texts)], got, want)
		}
	}
}

// Any bytes are answered by lines, each with a newline behind it.
func TestAnyBytesA1(t *testing.T) {
	d := die(7)
	for range 2000 {
		b := []byte(drawnSession(&d))
		for range d.n(30) {
			if len(b) > 0 {
				b[d.n(len(b))] = byte(d.n(256))
			}
		}
		s := string(b)
		got := augur.Session(s)
		if got != clerkOf(s) || got != "" && !strings.HasSuffix(got, "\n") {
			t.Fatalf("%q: %q, not %q", s, got, clerkOf(s))
		}
	}
}
