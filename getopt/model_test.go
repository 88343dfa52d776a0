package getopt_test

import (
	"fmt"
	"regexp"
	"slices"
	"strings"
	"testing"

	"tinsel/api"
	"tinsel/getopt"
)

// The models tell each call another way: specs by patterns, arguments by
// their places in the list.

var (
	specForm = regexp.MustCompile(`^\+?([A-Za-z0-9]:?)*$`)
	specPart = regexp.MustCompile(`[A-Za-z0-9]:?`)
)

// modelSpec: the letters without and with an argument; false: the spec is none.
func modelSpec(spec string) (alone, taking string, ok bool) {
	if !specForm.MatchString(spec) {
		return "", "", false
	}
	for _, part := range specPart.FindAllString(spec, -1) {
		if strings.Count(spec, part[:1]) > 1 {
			return "", "", false
		}
		if len(part) == 1 {
			alone += part
		} else {
			taking += part[:1]
		}
	}
	return alone, taking, true
}

// modelParse: what Parse answers, by places.
func modelParse(spec string, args []string) (opts []api.Opt, rest []string, bad api.BadOpt, e api.Errno) {
	alone, taking, ok := modelSpec(spec)
	if !ok {
		return nil, nil, api.BadOpt{}, api.EINVAL
	}
	for i := 0; i < len(args); i++ {
		cluster := strings.TrimPrefix(args[i], "-")
		if args[i] == "--" {
			return opts, append(rest, args[i+1:]...), bad, api.OK
		}
		if cluster == args[i] || cluster == "" {
			if strings.HasPrefix(spec, "+") {
				return opts, append(rest, args[i:]...), bad, api.OK
			}
			rest = append(rest, args[i])
			continue
		}
		behind := strings.TrimLeft(cluster, alone)
		for _, name := range strings.Split(strings.TrimSuffix(cluster, behind), "") {
			opts = append(opts, api.Opt{Name: name})
		}
		switch {
		case behind == "":
		case !strings.Contains(taking, behind[:1]):
			return nil, nil, api.BadOpt{Name: behind[:1]}, api.EUSAGE
		case len(behind) > 1:
			opts = append(opts, api.Opt{Name: behind[:1], Arg: behind[1:]})
		case i+1 == len(args):
			return nil, nil, api.BadOpt{Name: behind, Missing: true}, api.EUSAGE
		default:
			i++
			opts = append(opts, api.Opt{Name: behind, Arg: args[i]})
		}
	}
	return opts, rest, bad, api.OK
}

// modelUsage: all parts, those that are empty taken out.
func modelUsage(spec string) (string, api.Errno) {
	alone, taking, ok := modelSpec(spec)
	if !ok {
		return "", api.EINVAL
	}
	s := "[-" + alone + "]"
	for _, name := range strings.Split(taking, "") {
		s += " [-" + name + " arg]"
	}
	return strings.TrimSpace(strings.ReplaceAll(s, "[-]", "")), api.OK
}

// A spec, P9.3: Usage of every text of a few letters, and EINVAL of the other calls.
func TestEverySpec(t *testing.T) {
	for _, spec := range everyText("+:aB0-\xc3", 6) {
		s, e := getopt.Usage(spec)
		want, f := modelUsage(spec)
		is(t, fmt.Sprintf("Usage(%q)", spec), fmt.Sprintf("%q %v", s, e), fmt.Sprintf("%q %v", want, f))
		args := words("-a x -B0 -aB:-- -- +")
		is(t, fmt.Sprintf("Parse(%q, %q)", spec, args), parted(getopt.Parse(spec, args)), parted(modelParse(spec, args)))
		if _, g := getopt.Join(spec, nil, nil); g != f {
			t.Errorf("Join(%q, nil, nil): %v, want %v", spec, g, f)
		}
	}
}

// P9.1: of every few arguments.
func TestEveryArguments(t *testing.T) {
	all := everyList([]string{"", "-", "--", "x", "-a", "-b", "-ab", "-ba", "-x", "-a-", "--a", "-b-", "a", "-aé"}, 4)
	for _, spec := range []string{"", "+", "ab:", "+ab:", "a:b", "+a:b:", "bx:a", "aa"} {
		for _, args := range all {
			if got, want := parted(getopt.Parse(spec, args)), parted(modelParse(spec, args)); got != want {
				t.Fatalf("Parse(%q, %q): %s, want %s", spec, args, got, want)
			}
		}
	}
}

// P9.1: of every short argument, ahead of others.
func TestEveryCluster(t *testing.T) {
	for _, word := range everyText("-abx+:\xff", 5) {
		for _, spec := range []string{"ab:", "+ab:", "xb:a:", "+bx"} {
			args := []string{word, "-b", "-a", "x"}
			is(t, fmt.Sprintf("Parse(%q, %q)", spec, args), parted(getopt.Parse(spec, args)), parted(modelParse(spec, args)))
		}
	}
}

// P9.4: what Parse tells, joined and parsed again, is the same; and it is all
// that was given: names, arguments and operands, but for one -- and the - of
// clusters.
func TestNothingIsLost(t *testing.T) {
	for _, args := range everyList([]string{"", "-", "--", "x", "-a", "-b", "-ab", "-bc", "-aa", "b"}, 5) {
		for _, spec := range []string{"ab:", "+ab:"} {
			opts, rest, _, e := getopt.Parse(spec, args)
			if e != api.OK {
				continue
			}
			l, f := getopt.Join(spec, opts, rest)
			got := parted(getopt.Parse(spec, l))
			if want := parted(opts, rest, api.BadOpt{}, api.OK); f != api.OK || got != want {
				t.Fatalf("Parse(%q, %q): %s, joined %q, %v, and parsed again %s", spec, args, want, l, f, got)
			}
			had, has := weight(args), weight(rest)+weightOf(opts)
			if had != has && !(slices.Contains(args, "--") && had == has+weight([]string{"--"})) {
				t.Fatalf("Parse(%q, %q): %s: %d of %d bytes", spec, args, parted(opts, rest, api.BadOpt{}, e), has, had)
			}
			if !inOrder(rest, args) {
				t.Fatalf("Parse(%q, %q): operands %q", spec, args, rest)
			}
		}
	}
}

// weight: the bytes of arguments, without the - of a cluster.
func weight(l []string) int {
	n := 0
	for _, s := range l {
		n += len(s)
		if len(s) > 1 && s[0] == '-' {
			n--
		}
	}
	return n
}

// weightOf: the bytes of options, their arguments weighed like other ones, if they stood alone.
func weightOf(opts []api.Opt) int {
	n := 0
	for _, o := range opts {
		n += len(o.Name) + weight([]string{o.Arg})
	}
	return n
}

// inOrder: do the words of one list stand in another, one behind the other?
func inOrder(l, in []string) bool {
	for _, s := range l {
		i := slices.Index(in, s)
		if i < 0 {
			return false
		}
		in = in[i+1:]
	}
	return true
}

// P9.2: Join of every few options.
func TestEveryJoin(t *testing.T) {
	var some []api.Opt
	for _, name := range []string{"", "a", "b", "c", "ab", "+", ":"} {
		for _, arg := range []string{"", "x", "--"} {
			some = append(some, api.Opt{Name: name, Arg: arg})
		}
	}
	for _, spec := range []string{"", "ab:", "+ab:", "a:b", "c:", "+", "a::"} {
		alone, taking, ok := modelSpec(spec)
		for _, x := range some {
			for _, y := range some {
				want, good := []string{}, ok
				for _, o := range []api.Opt{x, y} {
					switch {
					case o.Arg == "" && slices.Contains(strings.Split(alone, ""), o.Name):
						want = append(want, "-"+o.Name)
					case slices.Contains(strings.Split(taking, ""), o.Name):
						want = append(want, "-"+o.Name, o.Arg)
					default:
						good = false
					}
				}
				if good {
					joins(t, spec, []api.Opt{x, y}, words("-a y"), append(want, "--", "-a", "y"))
				} else {
					noJoin(t, spec, []api.Opt{x, y}, words("-a y"))
				}
			}
		}
	}
}

// P9.3: Has, Count, Last and Winner of every few options.
func TestEveryAsk(t *testing.T) {
	for _, list := range everyList([]string{"", "a", "b", "ab", "c"}, 5) {
		var opts []api.Opt
		for i, name := range list {
			opts = append(opts, api.Opt{Name: name, Arg: strings.Repeat("x", i)})
		}
		byName := map[string][]string{}
		for _, o := range opts {
			byName[o.Name] = append(byName[o.Name], o.Arg)
		}
		for _, name := range []string{"", "a", "b", "ab", "c", "d"} {
			l := byName[name]
			asks(t, opts, name, len(l), append([]string{""}, l...)[len(l)])
		}
		for _, names := range []string{"", "a", "ab", "bca", "d"} {
			want := ""
			for _, name := range list {
				if len(name) == 1 && strings.Contains(names, name) {
					want = name
				}
			}
			is(t, fmt.Sprintf("Winner(%q, %q)", list, names), getopt.Winner(opts, names), want)
		}
	}
}
