package net

import (
	"strings"

	"augur/api"
	"augur/frac"
	"augur/table"
)

// write is the text of a net that may be, of whatever length.
func write(n api.Net) string {
	var lines []string
	for _, x := range n.Vars {
		lines = append(lines, varWord+" "+x.Name+" { "+strings.Join(x.Values, " ")+" }\n")
	}
	for v, x := range n.Vars {
		if len(n.Parents[v]) == 0 {
			lines = append(lines, x.Name+" : "+rowText(n.Rows[v]))
		} else {
			lines = append(lines, familyText(n, v))
		}
	}
	return strings.Join(lines, "")
}

func rowText(row []api.Frac) string {
	numbers := make([]string, len(row))
	for i, f := range row {
		numbers[i] = frac.Text(f)
	}
	return strings.Join(numbers, " ") + " ;\n"
}

// familyText is the lines of a variable that has parents.
func familyText(n api.Net, v int) string {
	sizes, parents, size := Sizes(n), n.Parents[v], len(n.Vars[v].Values)
	var text strings.Builder
	text.WriteString(n.Vars[v].Name + " |")
	for _, parent := range parents {
		text.WriteString(" " + n.Vars[parent].Name)
	}
	text.WriteString(" {\n")
	for k := range len(n.Rows[v]) / size {
		at, _ := table.Where(sizes, parents, k)
		for i, parent := range parents {
			text.WriteString(" " + n.Vars[parent].Values[at[i]])
		}
		text.WriteString(" : " + rowText(n.Rows[v][k*size:(k+1)*size]))
	}
	text.WriteString("}\n")
	return text.String()
}
