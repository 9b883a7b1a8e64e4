package augur_test

import (
	"fmt"
	"regexp"
	"slices"
	"strings"
	"testing"

	"augur/api"
	"augur/augur"
	"augur/cause"
	"augur/chance"
	"augur/frac"
	"augur/graph"
	"augur/infer"
	"augur/mean"
	"augur/net"
	"augur/script"
	"augur/table"
)

// die gives numbers that look drawn, the same each time.
type die uint64

func (d *die) n(most int) int {
	*d = *d*6364136223846793005 + 1442695040888963407
	return int(uint64(*d>>33) % uint64(most))
}

func (d *die) of(l []string) string { return l[d.n(len(l))] }

// lines is lines, each with a newline behind it.
func lines(l ...string) string {
	s := ""
	for _, x := range l {
		s += x + "\n"
	}
	return s
}

// answered asks for just this answer.
func answered(t *testing.T, text, want string) {
	t.Helper()
	if got := augur.Session(text); got != want {
		t.Errorf("%.2000q: %.2000q, not %.2000q", text, got, want)
	}
}

// eachAnswered asks lines one by one behind a text that is answered as told; of each line its answer stands behind " => ", lines of it parted by " / ".
func eachAnswered(t *testing.T, ahead, told string, questions ...string) {
	t.Helper()
	for _, q := range questions {
		line, want, ok := strings.Cut(q, " => ")
		if !ok {
			t.Fatalf("no answer: %q", q)
		}
		answered(t, ahead+line+"\n", told+strings.ReplaceAll(want, " / ", "\n")+"\n")
	}
}

// A clerk answers as the document says, with other means: forms are held against patterns, facts are a list, and a tree is asked of infer.
type clerk struct {
	net   *api.Net
	known []api.Fact
	prog  *api.Prog
	out   string
}

func clerkOf(text string) string {
	all := regexp.MustCompile(`[^\n]*\n|[^\n]+$`).FindAllString(text, -1)
	if len(text) > api.MaxText || len(all) > 500 {
		return "too long\n"
	}
	c := clerk{}
	for at := 0; at < len(all); at++ {
		line := strings.TrimSuffix(all[at], "\n")
		if line != "net" && line != "program" {
			c.line(line)
			continue
		}
		inner := ""
		for at++; at < len(all) && strings.TrimSuffix(all[at], "\n") != "end"; at++ {
			inner += all[at]
		}
		c.text(line, strings.TrimSuffix(inner, "\n"))
	}
	return c.out
}

func (c *clerk) text(kind, text string) {
	e := api.OK
	if kind == "net" {
		var n api.Net
		if n, e = net.Parse(text); e == api.OK {
			c.net, c.known = &n, nil
		}
	} else {
		var p api.Prog
		if p, e = script.Parse(text); e == api.OK {
			e = script.Check(p)
		}
		if e == api.OK {
			c.prog = &p
		}
	}
	if e != api.OK {
		c.out += fmt.Sprintf("error %d\n", e)
		return
	}
	c.out += "ok\n"
}

// The forms of lines, as patterns: <n> is a NAME, <f> a FACT.
var clerkForms = []string{
	`show`, `prob((?: <f>)*)`, `best((?: <f>)*)`, `ask((?: <n>)*) \|((?: <f>)*)`, `do((?: <f>)*) \|((?: <n>)*) \|((?: <f>)*)`,
	`apart((?: <n>)*) \|((?: <n>)*) \|((?: <n>)*)`, `door( <n>)( <n>) \|((?: <n>)*)`, `adjust( <f>)( <n>) \|((?: <n>)*)`,
	`tree`, `know( <f>)`, `forget( <n>)`, `margin( <n>)`, `run`, `after`, `diagram`,
}

// patterns are the forms' patterns, whole.
func patterns() []*regexp.Regexp {
	var l []*regexp.Regexp
	for _, f := range clerkForms {
		f = strings.ReplaceAll(f, "<n>", `(?:[^ =|]|[^ =]{2,})`)
		f = strings.ReplaceAll(f, "<f>", `[^ =]*=[^ =]*`)
		l = append(l, regexp.MustCompile(`^`+f+`$`))
	}
	return l
}

var clerkPatterns = patterns()

func (c *clerk) line(line string) {
	for _, p := range clerkPatterns {
		m := p.FindStringSubmatch(line)
		if m == nil {
			continue
		}
		word, _, _ := strings.Cut(line, " ")
		e := api.ErrState
		if word == "run" || word == "after" || word == "diagram" {
			if c.prog != nil {
				e = c.ofProgram(word)
			}
		} else if c.net != nil {
			e = c.ofNet(word, m[1:])
		}
		if e != api.OK {
			c.out += fmt.Sprintf("error %d\n", e)
		}
		return
	}
	c.out += "bad\n"
}

func (c *clerk) ofProgram(word string) api.Errno {
	if word == "diagram" {
		d, e := chance.Compile(*c.prog)
		c.out += fmt.Sprintf("knots %d draws %d\n", len(d.Knots), len(d.Draws))
		return e
	}
	a, e := mean.Run(*c.prog)
	points := a.Points
	if word == "after" {
		points, e = mean.After(a)
	}
	for _, x := range points {
		c.out += fmt.Sprintf("%d : %s\n", x.Value, frac.Text(x.P))
	}
	if word == "run" {
		c.out += fmt.Sprintf("stuck : %s\nlost : %s\n", frac.Text(a.Stuck), frac.Text(a.Lost))
	}
	return e
}

// numbers reads the parts of a line.
func (c *clerk) numbers(parts []string) (vars [][]int, facts [][]api.Fact, e api.Errno) {
	for _, p := range parts {
		var vs []int
		var fs []api.Fact
		for _, w := range strings.Split(p, " ")[1:] {
			l := strings.Split(w, "=")
			v, k := -1, -1
			for i, x := range c.net.Vars {
				if x.Name == l[0] {
					v, k = i, slices.Index(x.Values, l[len(l)-1])
				}
			}
			switch {
			case v < 0 || len(l) == 2 && k < 0:
				return nil, nil, api.ErrName
			case len(l) == 2:
				fs = append(fs, api.Fact{Var: v, Value: k})
			case slices.Contains(vs, v):
				return nil, nil, api.ErrDouble
			default:
				vs = append(vs, v)
			}
		}
		slices.Sort(vs)
		vars, facts = append(vars, vs), append(facts, fs)
	}
	return vars, facts, api.OK
}

func (c *clerk) ofNet(word string, parts []string) api.Errno {
	vars, facts, e := c.numbers(parts)
	if e != api.OK {
		return e
	}
	n := *c.net
	switch word {
	case "show":
		text, e := net.Print(n)
		c.out += text
		return e
	case "prob":
		f, e := infer.Prob(n, facts[0])
		return c.say(e, frac.Text(f))
	case "best":
		at, f, e := infer.Best(n, facts[0])
		s := ""
		for v, k := range at {
			s += n.Vars[v].Values[k] + " "
		}
		return c.say(e, s+": "+frac.Text(f))
	case "ask":
		t, e := infer.Posterior(n, vars[0], facts[1])
		return c.sayTable(t, e)
	case "do":
		t, e := cause.Effect(n, vars[1], facts[0], facts[2])
		return c.sayTable(t, e)
	case "apart":
		yes, e := graph.Apart(n.Parents, vars[0], vars[1], vars[2])
		return c.say(e, yesNo(yes))
	case "door":
		back, e := cause.BackDoor(n.Parents, vars[0][0], vars[1][0], vars[2])
		front, _ := cause.FrontDoor(n.Parents, vars[0][0], vars[1][0], vars[2])
		return c.say(e, "back "+yesNo(back)+" front "+yesNo(front))
	case "adjust":
		l, e := cause.Adjust(n, facts[0][0], vars[1][0], vars[2])
		return c.say(e, texts(l))
	}
	return c.ofTree(word, n, vars, facts)
}

func (c *clerk) ofTree(word string, n api.Net, vars [][]int, facts [][]api.Fact) api.Errno {
	var v int
	switch word {
	case "tree":
		moral, _ := graph.Moral(n.Parents)
		_, bags, _ := graph.Fill(moral)
		cliques, _, _ := graph.Tree(bags)
		for _, l := range cliques {
			var names []string
			for _, v := range l {
				names = append(names, n.Vars[v].Name)
			}
			c.out += strings.Join(names, " ") + "\n"
		}
		return api.OK
	case "know":
		v = facts[0][0].Var
	default:
		v = vars[0][0]
	}
	others := slices.DeleteFunc(slices.Clone(c.known), func(f api.Fact) bool { return f.Var == v })
	switch {
	case word == "margin":
		return c.margin(n, v)
	case word == "know":
		c.known = append(others, facts[0][0])
	case len(others) == len(c.known):
		return api.ErrState
	default:
		c.known = others
	}
	f, e := infer.Prob(n, c.known)
	return c.say(e, frac.Text(f))
}

// margin divides how likely each value is together with the facts by how likely these are.
func (c *clerk) margin(n api.Net, v int) api.Errno {
	whole, _ := infer.Prob(n, c.known)
	var l []api.Frac
	for k := range n.Vars[v].Values {
		facts, part := append(slices.Clone(c.known), api.Fact{Var: v, Value: k}), api.Frac{}
		if i := slices.IndexFunc(c.known, func(f api.Fact) bool { return f.Var == v }); i < 0 {
			part, _ = infer.Prob(n, facts)
		} else if c.known[i].Value == k {
			part = whole
		}
		f, e := frac.Div(part, whole)
		if e != api.OK {
			return e
		}
		l = append(l, f)
	}
	return c.say(api.OK, texts(l))
}

func (c *clerk) say(e api.Errno, line string) api.Errno {
	if e == api.OK {
		c.out += line + "\n"
	}
	return e
}

func (c *clerk) sayTable(t api.Table, e api.Errno) api.Errno {
	if e != api.OK {
		return e
	}
	for k, f := range t.Cells {
		at, _ := table.Where(net.Sizes(*c.net), t.Vars, k)
		for i, v := range t.Vars {
			c.out += c.net.Vars[v].Values[at[i]] + " "
		}
		c.out += ": " + frac.Text(f) + "\n"
	}
	return api.OK
}

func yesNo(b bool) string { return map[bool]string{true: "yes", false: "no"}[b] }

func texts(l []api.Frac) string {
	var s []string
	for _, f := range l {
		s = append(s, frac.Text(f))
	}
	return strings.Join(s, " ")
}
