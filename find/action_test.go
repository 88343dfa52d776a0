package find_test

import (
	"strings"
	"testing"

	"tinsel/api"
	"tinsel/find"
)

// P20.2: what is printed: the path, as it stands, or the glance, and what ends it.
func TestPrint(t *testing.T) {
	for _, path := range []string{"", "a", "/", "a/", "//x", "a b", "a\nb", "a\x00b", "é\xff"} {
		v := file(path)
		for args, want := range map[string]string{
			"-print": path + "\n", "-print0": path + "\x00", "-ls": find.Glance(v) + "\n", "-true": path + "\n",
			"-print -print0": path + "\n" + path + "\x00", "-print0 -print": path + "\x00" + path + "\n",
			"-print , -ls , -print": path + "\n" + find.Glance(v) + "\n" + path + "\n", "-ls -o -print": find.Glance(v) + "\n",
		} {
			f := of(t, args).Try(v, 0, nil)
			if string(f.Out) != want || !f.True {
				t.Errorf("%s of %q: %v, %q, want %q", args, path, f.True, f.Out, want)
			}
		}
	}
	refuseAll(t, "-print a", "-print0 a", "-ls a")
}

// P20.2: actions are true, but for -exec.
func TestActionsAreTrue(t *testing.T) {
	finds(t,
		[2]string{"-print", `true out "/d/f\n"`}, [2]string{"-print0", `true out "/d/f\x00"`}, [2]string{"-prune", `true out "/d/f\n" prune`}, [2]string{"-delete", "true gone"},
		[2]string{"! -print", `false out "/d/f\n"`}, [2]string{"! -print0", `false out "/d/f\x00"`}, [2]string{"! -prune", "false prune"}, [2]string{"! -delete", "false gone"},
		[2]string{"-exec a ;", `false run ["a"]`}, [2]string{"! -exec a ;", `true run ["a"]`},
		[2]string{"-prune -print -delete", `true out "/d/f\n" gone`}, [2]string{"-ls -false", `false out "` + find.Glance(file("/d/f")) + `\n"`},
	)
}

// P20.2: Prune, of each kind of visit, unless directories are told behind, wherever that is said.
func TestPrune(t *testing.T) {
	dir := api.Visit{Kind: api.VisitPre, Path: "a", Stat: api.Stat{Mode: api.TypeDir}}
	for _, v := range []api.Visit{dir, file("a")} {
		agree(t, "-prune", found(t, "-prune", v), `true out "a\n" prune`)
		agree(t, "-prune -o -print", found(t, "-prune -o -print", v), "true prune")
		agree(t, "-prune twice", found(t, "-prune -prune , -false", v), "false prune")
		agree(t, "not reached", found(t, "-false -prune , -false", v), "false")
	}
	post := dir
	post.Kind = api.VisitPost
	for _, v := range []api.Visit{post, file("a")} {
		agree(t, "-depth -prune", found(t, "-depth -prune", v), `true out "a\n"`)
		agree(t, "-prune -depth", found(t, "-prune -depth", v), `true out "a\n"`)
		agree(t, "-delete -prune", found(t, "-delete -prune", v), "true gone")
		agree(t, "-prune , -delete", found(t, "-prune , -delete", v), "true gone")
		agree(t, "-prune, and what is not reckoned", found(t, "-prune -o -delete", v), "true")
		agree(t, "-prune ! -depth", found(t, "-prune ! -depth", v), "false")
	}
	refuseAll(t, "-prune a", "-delete a")
}

// P20.2: -delete.
func TestDelete(t *testing.T) {
	finds(t,
		[2]string{"-delete", "true gone"}, [2]string{"-true -delete", "true gone"}, [2]string{"-false -delete", "false"}, [2]string{"-true -o -delete", "true"}, [2]string{"-delete -delete", "true gone"},
		[2]string{"-delete -false", "false gone"}, [2]string{"-name x -delete", "false"}, [2]string{"-name f -delete -print", `true out "/d/f\n" gone`}, [2]string{"-delete -quit", "false quit gone"}, [2]string{"-quit -delete", "false quit"},
	)
	pre := api.Visit{Kind: api.VisitPre, Path: "a"}
	agree(t, "ahead of what lies in it", found(t, "-delete", pre), "false")
	pre.Kind = api.VisitPost
	agree(t, "behind what lies in it", found(t, "-delete", pre), "true gone")
}

// P20.2: a command's words, with the path in place of each {}.
func TestExecWords(t *testing.T) {
	for _, v := range [][2]string{
		{"-exec echo {} ;", `["echo" "/d/f"]`}, {"-exec a ;", `["a"]`}, {"-exec {} ;", `["/d/f"]`}, {"-exec {} {} {} ;", `["/d/f" "/d/f" "/d/f"]`},
		{"-exec x{}y {}{} a{}b{}c ;", `["x/d/fy" "/d/f/d/f" "a/d/fb/d/fc"]`}, {"-exec {{}} ;", `["{/d/f}"]`}, {"-exec { } {a} }{ ;", `["{" "}" "{a}" "}{"]`}, {"-exec {}} {{} ;", `["/d/f}" "{/d/f"]`},
		{"-exec a  ;", `["a" ""]`}, {"-exec  ;", `[""]`}, {"-exec -exec -print ( ) ! , -o -a ;", `["-exec" "-print" "(" ")" "!" "," "-o" "-a"]`}, {"-exec a ;; ;a \\; ;", `["a" ";;" ";a" "\\;"]`}, {"-exec a + ;", `["a" "+"]`}, {"-exec a {} + ;", `["a" "/d/f" "+"]`},
	} {
		agree(t, v[0], found(t, v[0], file("/d/f"), 0), "true run "+v[1])
	}
	agree(t, "a path with {}", found(t, "-exec {}{} ;", file("a{}b"), 0), `true run ["a{}ba{}b"]`)
	agree(t, "a path of }", found(t, "-exec {{} {}} ;", file("}"), 0), `true run ["{}" "}}"]`)
	agree(t, "an empty path", found(t, "-exec a{}b {} ;", file(""), 0), `true run ["ab" ""]`)
	agree(t, "an odd path", found(t, "-exec {}. ;", file("\xff\n "), 0), `true run ["\xff\n ."]`)
	refuseAll(t, "-exec", "-exec ;", "-exec a", "-exec a b {}", "-exec a {} +", "-exec ; -print", "-exec a ;;", "-exec a ; b ;", "-exec a ; ;", "( -exec a )", "-exec a ; )", "-exec a -exec", "-true -exec ;", "-exec a \\;")
}

// P20.2: the status of each run, by its number in this Try; without one it is 1.
func TestExecStatuses(t *testing.T) {
	all := `true run ["a"] run ["b"] run ["c"]`
	for _, v := range []struct {
		args     string
		statuses []int
		want     string
	}{
		{"-exec a ;", nil, `false run ["a"]`}, {"-exec a ;", []int{}, `false run ["a"]`}, {"-exec a ;", []int{0}, `true run ["a"]`}, {"-exec a ;", []int{1}, `false run ["a"]`}, {"-exec a ;", []int{-1}, `false run ["a"]`}, {"-exec a ;", []int{127}, `false run ["a"]`}, {"-exec a ;", []int{256}, `false run ["a"]`}, {"-exec a ;", []int{0, 1}, `true run ["a"]`}, {"-exec a ;", []int{1, 0}, `false run ["a"]`},
		{"-exec a ; -exec b ;", nil, `false run ["a"]`}, {"-exec a ; -exec b ;", []int{0}, `false run ["a"] run ["b"]`}, {"-exec a ; -exec b ;", []int{0, 0}, `true run ["a"] run ["b"]`}, {"-exec a ; -exec b ;", []int{0, 1}, `false run ["a"] run ["b"]`}, {"-exec a ; -exec b ;", []int{1, 0}, `false run ["a"]`},
		{"-exec a ; -o -exec b ;", nil, `false run ["a"] run ["b"]`}, {"-exec a ; -o -exec b ;", []int{0}, `true run ["a"]`}, {"-exec a ; -o -exec b ;", []int{1, 0}, `true run ["a"] run ["b"]`}, {"-exec a ; -o -exec b ;", []int{1, 2}, `false run ["a"] run ["b"]`},
		{"-exec a ; , -exec b ;", []int{1, 0}, `true run ["a"] run ["b"]`}, {"-exec a ; , -exec b ;", []int{0}, `false run ["a"] run ["b"]`},
		{"-exec a ; -exec b ; -exec c ;", []int{0, 0, 0, 0}, all}, {"-exec a ; -exec b ; -exec c ;", []int{0, 0, 0}, all}, {"-exec a ; -exec b ; -exec c ;", []int{0, 0, 7}, "false" + all[4:]}, {"! -exec a ; , ! -exec b ; , ! -exec c ;", []int{0, 0}, all},
		{"! -exec a ; -exec b ;", []int{5, 0}, `true run ["a"] run ["b"]`}, {"-false -exec a ; , -exec b ;", []int{0, 1}, `true run ["b"]`}, {"-true -o -exec a ; , -exec b ;", []int{0, 1}, `true run ["b"]`},
		{"( -exec a ; -o -exec b ; ) -exec c ;", []int{1, 0, 0}, all}, {"-exec a ; ( -exec b ; , -exec c ; )", []int{0, 1, 0}, all}, {"-exec a ; -print", []int{0}, `true out "/d/f\n" run ["a"]`}, {"-exec a ; -print", []int{1}, `false run ["a"]`}, {"-print -exec a ;", nil, `false out "/d/f\n" run ["a"]`},
	} {
		agree(t, v.args, found(t, v.args, file("/d/f"), v.statuses...), v.want)
	}
}

// P20.2: -quit: nothing more is reckoned, what was done stays, and the value is false.
func TestQuit(t *testing.T) {
	finds(t,
		[2]string{"-quit", "false quit"}, [2]string{"! -quit", "false quit"}, [2]string{"! ! -quit", "false quit"}, [2]string{"( -quit )", "false quit"}, [2]string{"! ( ! -quit )", "false quit"},
		[2]string{"-print -quit", `false out "/d/f\n" quit`}, [2]string{"-quit -print", "false quit"}, [2]string{"-true -quit", "false quit"}, [2]string{"-false -quit", "false"}, [2]string{"! -false -quit", "false quit"},
		[2]string{"-quit -o -print", "false quit"}, [2]string{"-true -o -quit", "true"}, [2]string{"-false -o -quit", "false quit"}, [2]string{"-print -o -quit", `true out "/d/f\n"`}, [2]string{"! -print -o -quit", `false out "/d/f\n" quit`},
		[2]string{"-quit , -print", "false quit"}, [2]string{"-print , -quit", `false out "/d/f\n" quit`}, [2]string{"-quit , -true", "false quit"}, [2]string{"-true , -quit", "false quit"}, [2]string{"-false , -quit , -print", "false quit"}, [2]string{"-print , ! -quit , -print", `false out "/d/f\n" quit`},
		[2]string{"( -print -quit ) -o -print0", `false out "/d/f\n" quit`}, [2]string{"( -print , -quit ) , -print0", `false out "/d/f\n" quit`}, [2]string{"! ( -print -quit ) -print0", `false out "/d/f\n" quit`}, [2]string{"-quit -quit", "false quit"},
		[2]string{"-prune -quit", "false prune quit"}, [2]string{"-delete -quit -print", "false quit gone"}, [2]string{"-exec a ; -quit", `false run ["a"]`}, [2]string{"-exec a ; , -quit , -exec b ;", `false run ["a"] quit`}, [2]string{"! -exec a ; -quit", `false run ["a"] quit`}, [2]string{"( -true -o -quit ) -quit -o -quit", "false quit"},
	)
	agree(t, "behind a run that went well", found(t, "-exec a ; -quit", file("a"), 0), `false run ["a"] quit`)
	agree(t, "ahead of a run", found(t, "-quit , -exec a ;", file("a"), 0), "false quit")
	refuseAll(t, "-quit 0", "-quit a")
	x := of(t, "-quit")
	for range 3 {
		agree(t, "again", says(x.Try(file("a"), 0, nil)), "false quit")
	}
}

// P20.2: the right side of -o and -a is reckoned just if it must be; both sides of a comma are.
func TestWhatIsReckoned(t *testing.T) {
	out := func(s string) string {
		return `"` + strings.ReplaceAll(strings.ReplaceAll(s, "n", `/d/f\n`), "0", `/d/f\x00`) + `"`
	}
	finds(t,
		[2]string{"-print -print0", "true out " + out("n0")}, [2]string{"-print -o -print0", "true out " + out("n")}, [2]string{"-print , -print0", "true out " + out("n0")},
		[2]string{"! -print -print0", "false out " + out("n")}, [2]string{"! -print -o -print0", "true out " + out("n0")}, [2]string{"! -print , -print0", "true out " + out("n0")}, [2]string{"-print , ! -print0", "false out " + out("n0")},
		[2]string{"-print ! -print0", "false out " + out("n0")}, [2]string{"! -print -o ! -print0", "false out " + out("n0")}, [2]string{"! ( -print -o -print0 )", "false out " + out("n")}, [2]string{"! ( ! -print -print0 )", "true out " + out("n")},
		[2]string{"-false -print -o -print0", "true out " + out("0")}, [2]string{"-false ( -print -o -print0 )", "false"}, [2]string{"-true -o -print -print0", "true"}, [2]string{"( -true -o -print ) -print0", "true out " + out("0")},
		[2]string{"-true -o -print , -print0", "true out " + out("0")}, [2]string{"-true -o ( -print , -print0 )", "true"}, [2]string{"-false -print , -print0", "true out " + out("0")}, [2]string{"-false ( -print , -print0 )", "false"},
		[2]string{"-print -false -o -print0", "true out " + out("n0")}, [2]string{"-print ( -false -o -print0 )", "true out " + out("n0")}, [2]string{"-false -o -false -o -print -o -print0", "true out " + out("n")}, [2]string{"-print , -false , -print0 , -false", "false out " + out("n0")},
		[2]string{"-print -print -print0 -print", "true out " + out("nn0n")}, [2]string{"-name f -print -o -name d -print0", "true out " + out("n")}, [2]string{"-name d -print -o -name f -print0", "true out " + out("0")}, [2]string{"-name d -print -o -name e -print0", "false"},
		[2]string{"-name d -o -name f -print", "true out " + out("n")}, [2]string{"-name f -o -name d -print", "true"}, [2]string{"-name f -o -name d", "true out " + out("n")}, [2]string{"-name d -o -name e", "false"}, [2]string{"-true , -false", "false"}, [2]string{"-false , -true", "true out " + out("n")}, [2]string{"! -false", "true out " + out("n")},
	)
}
