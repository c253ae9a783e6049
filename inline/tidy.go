package inline

import (
	"strings"

	"incipit/api"
)

// Tidy is parts, with one text where several stand side by side.
func Tidy(l []api.Node) []api.Node {
	var tidy []api.Node
	for len(l) > 0 {
		n := texts(l)
		if n == 0 {
			tidy = append(tidy, tidied(l[0], l[0].S))
			l = l[1:]
			continue
		}
		if first, all := joined(l[:n]); all != "" {
			tidy = append(tidy, tidied(first, all))
		}
		l = l[n:]
	}
	return tidy
}

// Plain is what can be read of parts.
func Plain(l []api.Node) string {
	var out strings.Builder
	read(&out, l)
	return out.String()
}

// texts is how many texts parts begin with.
func texts(l []api.Node) int {
	for i := range l {
		if l[i].Kind != api.Text {
			return i
		}
	}
	return len(l)
}

// joined is the first one of texts that is not empty, and the S of them all.
func joined(l []api.Node) (api.Node, string) {
	var first api.Node
	var all strings.Builder
	for _, t := range l {
		if all.Len() == 0 {
			first = t
		}
		all.WriteString(t.S)
	}
	return first, all.String()
}

// tidied is a node in memory of its own, with s, and with what stands in it tidy.
func tidied(n api.Node, s string) api.Node {
	n.S, n.T, n.L = strings.Clone(s), strings.Clone(n.T), Tidy(n.L)
	return n
}

// read writes what can be read of parts.
func read(out *strings.Builder, l []api.Node) {
	for i := range l {
		switch l[i].Kind {
		case api.Text, api.Span:
			out.WriteString(l[i].S)
		case api.Soft, api.Hard:
			out.WriteByte(' ')
		}
		read(out, l[i].L)
	}
}
