package find_test

import (
	"fmt"
	"strings"
	"testing"

	"tinsel/api"
	"tinsel/find"
)

// rooted: the roots of a list, and the expression written out.
func rooted(args ...string) string {
	roots, x, e := find.Parse(args)
	return fmt.Sprintf("%q %s %d", roots, x, int(e))
}

// P20.1: roots stand ahead of the first argument that begins with - and has more, or is (, ! or a comma.
func TestRoots(t *testing.T) {
	for _, v := range []struct {
		args  string
		roots []string
	}{
		{"a", []string{"a"}}, {"a b", []string{"a", "b"}}, {"/ . ..", []string{"/", ".", ".."}},
		{"-", []string{"-"}}, {" ", []string{"", ""}}, {"- ", []string{"-", ""}}, {"a a", []string{"a", "a"}},
		{")", []string{")"}}, {"a ) b", []string{"a", ")", "b"}}, {"; {} *", []string{";", "{}", "*"}},
		{"(a !b ,c )d", []string{"(a", "!b", ",c", ")d"}}, {"a- b,", []string{"a-", "b,"}}, {"o -", []string{"o", "-"}},
		{"é \xff \x00", []string{"é", "\xff", "\x00"}},
	} {
		roots := fmt.Sprintf("%q ", v.roots)
		agree(t, v.args, rooted(split(v.args)...), roots+"( -true -a -print ) 0")
		for _, x := range [][2]string{
			{"-print", "-print"}, {"( -print )", "-print"}, {"! -print", "! -print"}, {"-name a -print", "( -name a -a -print )"},
		} {
			agree(t, v.args+" and "+x[0], rooted(append(split(v.args), split(x[0])...)...), roots+x[1]+" 0")
		}
	}
	agree(t, "one empty root", rooted(""), `[""] ( -true -a -print ) 0`)
	agree(t, "an empty root and a test", rooted("", "-print"), `[""] -print 0`)
}

// P20.1: without a root there is the one of the directory where one stands; without an expression there is -true.
func TestNoRoots(t *testing.T) {
	agree(t, "nothing", rooted(), `["."] ( -true -a -print ) 0`)
	agree(t, "nil", rooted([]string(nil)...), `["."] ( -true -a -print ) 0`)
	agree(t, "an empty list", rooted([]string{}...), `["."] ( -true -a -print ) 0`)
	for _, v := range [][2]string{{"-print", "-print"}, {"( -print )", "-print"}, {"! -print", "! -print"}, {"-depth", "( -depth -a -print )"}} {
		agree(t, v[0], rooted(split(v[0])...), `["."] `+v[1]+" 0")
	}
}

// P20.1: a root stands ahead of all, and nothing that is none behind the first test.
func TestNoRootBehind(t *testing.T) {
	refuseAll(t, "-print a", "a -print b", "-true .", "-true /a", "( a )", "( a -print )", "! a", ", a", "-true -", "- -true -", "-print ", "( -true ) b", "-name a b", "-exec a ; b", "a , b", "! ")
}

// P20.1: what binds more, and from which side.
func TestBinding(t *testing.T) {
	for _, v := range [][2]string{
		{"-true -false", "( -true -a -false )"}, {"-true -a -false", "( -true -a -false )"}, {"-true -o -false", "( -true -o -false )"},
		{"-true , -false", "( -true , -false )"}, {"! -true", "! -true"}, {"! ! -true", "! ! -true"}, {"! ! ! -true", "! ! ! -true"},
		{"-true -true -false", "( ( -true -a -true ) -a -false )"}, {"-true -a -true -a -false", "( ( -true -a -true ) -a -false )"},
		{"-true -a -true -false", "( ( -true -a -true ) -a -false )"}, {"-true -true -a -false", "( ( -true -a -true ) -a -false )"},
		{"-true -o -true -o -false", "( -true -o ( -true -o -false ) )"}, {"-true , -true , -false", "( ( -true , -true ) , -false )"},
		{"-true -false -o -false", "( ( -true -a -false ) -o -false )"}, {"-true -o -false -false", "( -true -o ( -false -a -false ) )"},
		{"-true -o -false , -true -false", "( ( -true -o -false ) , ( -true -a -false ) )"},
		{"-true , -false -o -true", "( -true , ( -false -o -true ) )"}, {"-true -false , -true", "( ( -true -a -false ) , -true )"},
		{"! -true -false", "( ! -true -a -false )"}, {"-true ! -false", "( -true -a ! -false )"}, {"-true -a ! -false", "( -true -a ! -false )"},
		{"! -true -o ! -false", "( ! -true -o ! -false )"}, {"! -true , -false", "( ! -true , -false )"},
		{"( -true )", "-true"}, {"( ( -true ) )", "-true"}, {"! ( -true )", "! -true"}, {"( ! -true )", "! -true"}, {"! ( ! ( -true ) )", "! ! -true"},
		{"( -true -o -false ) -false", "( ( -true -o -false ) -a -false )"}, {"-true ( -false -o -false )", "( -true -a ( -false -o -false ) )"},
		{"-true -a ( -false , -false )", "( -true -a ( -false , -false ) )"}, {"( -true ) ( -false )", "( -true -a -false )"},
		{"( -true -o -true ) -o -false", "( ( -true -o -true ) -o -false )"}, {"-true ( -true -false )", "( -true -a ( -true -a -false ) )"},
		{"-true , ( -true , -false )", "( -true , ( -true , -false ) )"}, {"! ( -true -false )", "! ( -true -a -false )"}, {"! ( -true , -false ) -o -true", "( ! ( -true , -false ) -o -true )"},
		{"( -true , -false ) , -true", "( ( -true , -false ) , -true )"},
	} {
		agree(t, v[0], of(t, v[0]).String(), "( "+v[1]+" -a -print )")
		printed := strings.ReplaceAll(v[0], "-true", "-print")
		agree(t, printed, of(t, printed).String(), strings.ReplaceAll(v[1], "-true", "-print"))
	}
}

// P20.1: what is not whole is none.
func TestNoExpressions(t *testing.T) {
	for _, x := range split("-true -print") {
		refuseAll(t, "( )", "(", "( (", "( ) "+x, x+" ( )", "( "+x, "( ( "+x+" )", x+" )", "( "+x+" ) )", x+" (", x+" ( "+x, "( ) )", "! )", "( ! )", "( "+x+" ( ) )")
		refuseAll(t, "-o", "-a", "!", ",", "-o "+x, "-a "+x, ", "+x, x+" -o", x+" -a", x+" !", x+" ,", "! !", "! ! !")
		refuseAll(t, "( -o "+x+" )", "( "+x+" -o )", "( -a "+x+" )", "( "+x+" -a )", "( , "+x+" )", "( "+x+" , )", "( "+x+" ! )", "( ! ) "+x, "( , )", "( -o )", "( -a )")
		refuseAll(t, x+" -o -o "+x, x+" -a -a "+x, x+" , , "+x, x+" -o -a "+x, x+" -a -o "+x, x+" , -o "+x, x+" -o , "+x, x+" -a , "+x, x+" , -a "+x, "! -o "+x, "! -a "+x, "! , "+x, x+" ! -a "+x)
		refuseAll(t, x+" -or "+x, x+" -and "+x, "-not "+x, x+" --", "-- "+x, "-x", "-X", "-TRUE", "-True", "--true", "-true1", "-t", "-prin", "-print1", "-print0 0", "-lss", "-help", "-version", "-f", "-1", "-1 "+x)
	}
	refuse(t, []string{"-true -print"}, []string{"-true "}, []string{"-true\n"}, []string{"-name a"}, []string{"-o", "-o"}, []string{"(", "-true", ") "}, []string{"-true", ""}, []string{"-true\x00"}, []string{"-\xff"})
}

// P20.1: each test and action is written with its arguments, as they were given.
func TestWrittenOut(t *testing.T) {
	for _, s := range []string{
		"-true", "-false", "-name *.c", "-iname A", "-path */a", "-ipath [!a]", "-type f", "-type d", "-type l", "-type p",
		"-perm 644", "-perm -u+r", "-perm /0022", "-perm u=rw,go=r", "-links 1", "-links +01", "-inum -7", "-user 0", "-group +000", "-uid -3", "-gid 999999999999999999",
		"-size 1", "-size +1c", "-size -02w", "-size 3k", "-size 4b", "-mtime 1", "-atime +2", "-ctime -3", "-mmin 0", "-amin +60", "-cmin -007",
		"-newer a", "-depth", "-mindepth 0", "-maxdepth 12", "-mindepth 007", "-prune",
	} {
		agree(t, s, of(t, s).String(), "( "+s+" -a -print )")
		agree(t, s+" twice", of(t, s+" "+s).String(), "( ( "+s+" -a "+s+" ) -a -print )")
	}
	for _, s := range []string{"-print", "-print0", "-ls", "-quit", "-delete", "-exec a ;", "-exec a b {} {}c ;", "-exec -exec -true ( , ! -o ;", "-exec {} ;"} {
		agree(t, s, of(t, s).String(), s)
		agree(t, "! "+s, of(t, "! "+s).String(), "! "+s)
		agree(t, s+" twice", of(t, s+" "+s).String(), "( "+s+" -a "+s+" )")
	}
	agree(t, "an empty pattern", parsed(t, "-name", "", "-print").String(), "( -name  -a -print )")
	agree(t, "an argument with a space", parsed(t, "-name", "a b", "-print").String(), "( -name a b -a -print )")
	agree(t, "empty words", parsed(t, "-exec", "", "", ";").String(), "-exec   ;")
	agree(t, "odd bytes", parsed(t, "-path", "\xff\x00\n", "-print").String(), "( -path \xff\x00\n -a -print )")
}

// P20.1: an argument is taken as it stands, also if it looks like something else.
func TestArgumentsThatLookLikeTests(t *testing.T) {
	for _, name := range split("-name -iname -path -ipath -newer") {
		for _, arg := range split("-print -name -o -a ! , ( ) ; - -delete -x {}") {
			agree(t, name+" "+arg, of(t, name+" "+arg).String(), "( "+name+" "+arg+" -a -print )")
			agree(t, "( "+name+" "+arg+" )", of(t, "( "+name+" "+arg+" )").String(), "( "+name+" "+arg+" -a -print )")
		}
		refuseAll(t, name, "-true "+name, "( "+name+" )", "! "+name, "-true -o "+name, name+" a "+name)
	}
	for _, arg := range split("-true ( ) ! , -o -a -quit -print {}") {
		agree(t, arg, of(t, "-exec "+arg+" ;").String(), "-exec "+arg+" ;")
	}
}

// P20.1: an expression without an action, other than -prune, is printed.
func TestPrintOfItself(t *testing.T) {
	for _, s := range split("-true -false -prune -depth") {
		agree(t, s, of(t, s).String(), "( "+s+" -a -print )")
	}
	agree(t, "-maxdepth 1", of(t, "-maxdepth 1").String(), "( -maxdepth 1 -a -print )")
	agree(t, "-prune -o -true", of(t, "-prune -o -true").String(), "( ( -prune -o -true ) -a -print )")
	agree(t, "-true , -prune", of(t, "-true , -prune").String(), "( ( -true , -prune ) -a -print )")
	for _, act := range []string{"-print", "-print0", "-ls", "-quit", "-delete", "-exec a ;"} {
		for _, s := range []string{"%", "! %", "( -true -a % )", "( % -a -true )", "( -true -o % )", "( % -o -true )", "( -true , % )", "( % , -true )", "( -prune -a % )", "( -false -a ! ( -true -o % ) )", "( % -a % )"} {
			s = strings.ReplaceAll(s, "%", act)
			agree(t, s, of(t, s).String(), s)
		}
	}
	agree(t, "a pattern like an action", of(t, "-name -print").String(), "( -name -print -a -print )")
	agree(t, "a file like an action", of(t, "-newer -delete").String(), "( -newer -delete -a -print )")
}

// P20.1: MaxWords arguments may stand there, and no more.
func TestMostWords(t *testing.T) {
	most := api.MaxWords
	for _, v := range []struct {
		args  string
		value bool
	}{
		{often(most, "-true"), true}, {often(most, "a"), true}, {often(most-1, "!") + " -true", false}, {often(most-2, "!") + " ! -false", true},
		{often(most/2-1, "(") + " -true -true " + often(most/2-1, ")"), true}, {often(most/2-1, "-false -o") + " -true -true", true},
		{often(most/2-1, "-true ,") + " -true -false", false}, {often(most/2-1, "-true -a") + " -true -false", false}, {"a b " + often(most-2, "-print"), true},
		{often(most-1, "-false") + " -print", false}, {"-exec " + often(most-2, "{}") + " ;", true}, {often(most-1, "a") + " -print", true},
	} {
		l := split(v.args)
		if len(l) != most {
			t.Fatalf("%d words", len(l))
		}
		if got := parsed(t, l...).Try(file("a"), 0, []int{0}).True; got != v.value {
			t.Errorf("%s: %v", short(v.args), got)
		}
		refuse(t, append(l, "-true"), append([]string{"a"}, l...), append(l, l...))
	}
	many := split(often(most+1, "a"))
	refuse(t, many, append(many, "-print"), split(often(100000, "-true")), split(often(100000, "(")))
}
