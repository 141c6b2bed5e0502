package cutler_test

import (
	"slices"
	"strconv"
	"strings"
	"testing"

	"bolster/api"
	"bolster/cutler"
)

// talk is a line and its reply.
type talk struct{ line, reply string }

// talks does lines on a new workshop and tells where a reply is not the one that is wanted.
func talks(t *testing.T, list ...talk) {
	t.Helper()
	c := cutler.New()
	for _, x := range list {
		want := x.reply
		if want != "" {
			want += "\n"
		}
		if got := c.Line(x.line); got != want {
			t.Errorf("%q: %q; want %q", x.line, got, want)
		}
	}
}

func TestExamples(t *testing.T) {
	talks(t, talk{"rhythm abaab", "periods 3 5\nlyndon ab aab\nturn 2\ncritical 2 4\nrun 2 4 1"})
	talks(t, talk{"wheels 3", ""}, talk{"belt 0 1 2 1", ""}, talk{"belt 1 2 3 1", ""}, talk{"belt 0 2 5 1", ""},
		talk{"speeds", "block 0 1 2\nslip 0"})
	talks(t, talk{"place 2 5 1", ""}, talk{"place 0 4 3", ""},
		talk{"river", "best 1 1\nworth 9\nshares 6 3\nprices 3 3"})
	talks(t, talk{"put a 1", ""}, talk{"view", "view 0"}, talk{"delete a", ""},
		talk{"get 0 a", "value 1"}, talk{"get -1 a", "! 5"})
	talks(t, talk{"even 2 1", "even aab"})
}

// The replies at first, and those of the examples of the layers' chapters.
func TestAtFirst(t *testing.T) {
	talks(t,
		talk{"speeds", "speeds 1"}, talk{"ratio 0 0", "ratio 1"}, talk{"group", "primes"}, talk{"river", "! 1"},
		talk{"alone", "! 1"}, talk{"aspires 0", "! 1"}, talk{"calls", "! 1"}, talk{"renew 1", "! 1"},
		talk{"mean", "! 1"}, talk{"spares 1 1", "! 1"}, talk{"replace 1 1", "! 1"}, talk{"pairs", "! 1"},
		talk{"lacks 0", "! 1"}, talk{"pairing 0 0", "! 1"}, talk{"kernel", "! 1"}, talk{"choose 0 0 0", "! 1"},
		talk{"play 0 0 0", "! 1"}, talk{"shaft", "! 1"}, talk{"overfull", "! 1"},
		talk{"granted", "granted 0\nideal 0"}, talk{"preferred", "set 0"}, talk{"stable", "set 0"},
		talk{"complete", "set 0"}, talk{"odd", "fine"}, talk{"start 0", "! 6"}, talk{"pass 0", "! 6"},
		talk{"leaders", "! 6"}, talk{"task 0 0", "! 6"}, talk{"idle 0", "! 6"}, talk{"deliver 0", "! 6"},
		talk{"ended", "! 6"}, talk{"get -1 a", "! 5"}, talk{"get 0 a", "! 1"}, talk{"scan -1", ""},
		talk{"scan 0", "! 1"}, talk{"drop 0", "! 1"}, talk{"sync", ""}, talk{"flush", ""}, talk{"compact", ""},
		talk{"row 0 .", ""}, talk{"row 1 .", "! 1"}, talk{"row -1 .", "! 1"}, talk{"job 0 1 1 1", ""},
		talk{"shaft", "first 0\nshort 0\nend 1"})
}

func TestStudies(t *testing.T) {
	talks(t,
		talk{"rhythm a", "periods 1\nlyndon a\nturn 0\ncritical"}, talk{"rhythm aa", "periods 1 2\nlyndon a a\nturn 0\ncritical 1\nrun 0 2 1"},
		talk{"rhythm e", "! 2"}, talk{"rhythm " + strings.Repeat("a", 201), "! 3"},
		talk{"even 3 2", "even aabab"}, talk{"even 2 2", "! 5"}, talk{"even 0 1", "! 1"},
		talk{"gaps 3 3 8", "gaps 3 3 2"}, talk{"gaps 4 3 8", "! 5"}, talk{"gaps 8 3 8", "! 1"},
		talk{"scroll 0 0", "genus 0\nsigns 1\ndrawn yes\ncanon 0 0"}, talk{"scroll 1 0 1 0", "genus 1\nsigns 1 1\ndrawn no\ncanon 0 1 0 1"},
		talk{"scroll", "! 2"}, talk{"scroll 0 1", "! 2"}, talk{"scroll" + strings.Repeat(" 0", 21), "! 3"},
		talk{"faces 2 0 0 1", "face -2\nface -1 1\nface 0"}, talk{"faces 2 0 0", "! 2"}, talk{"faces 2 0 0 2", "! 2"},
		talk{"faces 3 0 0", "! 1"}, talk{"faces 2 0 x", "! 2"}, talk{"faces -1", "! 1"}, talk{"faces 0", "! 2"},
		talk{"faces 21" + strings.Repeat(" 0", 21), "! 3"},
		talk{"terms 43 30", "terms 1 2 3 4"}, talk{"terms 0 1", "! 1"},
		talk{"near 43 30 7", "near 10 7"}, talk{"near 1 2 1", "near 0 1"}, talk{"near 1 2 0", "! 1"},
		talk{"root 7", "root 2\nperiod 1 1 1 4\npell 8 3"}, talk{"root 9", "! 5"}, talk{"root 1", "! 1"},
		talk{"train 5 7 1 20 30 28", "pair 0 2"}, talk{"train 1 1 2 4 3 2 6", "pair 0 2\npair 1 3"},
		talk{"train 1 1 2 4 3 2", "! 5"}, talk{"train 1 1 0", "! 1"}, talk{"train 1 1 1", "! 5"},
		talk{"beats 2 7", "beats bababba"}, talk{"beats 2 0", "beats -"}, talk{"beats 4 0", "! 5"},
		talk{"markov 100", "markov 1 2 5 13 29 34 89"}, talk{"markov 0", "! 1"})
}

func TestGear(t *testing.T) {
	talks(t,
		talk{"wheels 3", ""}, talk{"belt 0 1 2 1", ""}, talk{"belt 1 2 3 1", ""}, talk{"belt 0 2 6 1", ""},
		talk{"speeds", "speeds 1 2 6"}, talk{"ratio 2 1", "ratio 1/3"}, talk{"ratio 0 3", "! 1"},
		talk{"wheels 0", "! 1"}, talk{"wheels 11", "! 1"}, talk{"ratio 0 2", "ratio 6"},
		talk{"wheels 10", ""}, talk{"speeds", "speeds" + strings.Repeat(" 1", 10)},
		talk{"wheels 4", ""}, talk{"speeds", "speeds 1 1 1 1"}, talk{"ratio 0 1", "! 5"},
		talk{"belt 0 1 2 1", ""}, talk{"belt 1 2 3 1", ""}, talk{"belt 0 2 5 1", ""},
		talk{"group", "primes 2 3 5\nrow 1 1 -1"}, talk{"ratio 0 1", "! 5"},
		talk{"belt 0 0 0 0", ""}, talk{"speeds", "! 1"}, talk{"group", "! 1"})
}

func TestRiver(t *testing.T) {
	talks(t,
		talk{"place 2 5 1", ""}, talk{"place 0 4 3", ""}, talk{"alone 0", "worth 6"}, talk{"alone", "worth 0"},
		talk{"aspires 1", "worth 7"}, talk{"alone 1 0", "! 2"}, talk{"aspires 2", "! 2"}, talk{"calls 1 0", "! 1"},
		talk{"calls 1 2 1 0", "use 0 2"}, talk{"calls 1 2 0", "! 2"}, talk{"calls 1 2 x 0", "! 2"},
		talk{"clear river", ""}, talk{"river", "! 1"},
		talk{"place 3", ""}, talk{"place 1", ""}, talk{"calls 3 3 1 0", "use 1 3"},
		talk{"river", "best 0 0\nworth 0\nshares 0 0\nprices 0 0"},
		talk{"place 31", ""}, talk{"river", "! 1"})
}

func TestWear(t *testing.T) {
	talks(t,
		talk{"lives 1/2 1/2", ""}, talk{"renew 3", "renew 1 1/2 3/4 5/8"}, talk{"renew 41", "! 1"}, talk{"mean", "mean 3/2 1"},
		talk{"replace 1 4", "replace 1 5/2"}, talk{"replace 0 1", "! 1"}, talk{"spares 1 1", "spares 1/2"},
		talk{"lives 2/4 1/2", "! 2"}, talk{"mean", "mean 3/2 1"}, talk{"lives 1/2 1/3", ""}, talk{"mean", "! 1"},
		talk{"lives 0 1", ""}, talk{"mean", "mean 2 2"}, talk{"spares 4 2", "spares 1"}, talk{"lives", ""}, talk{"mean", "! 1"})
}

func TestPairs(t *testing.T) {
	talks(t,
		talk{"cost 1 2", ""}, talk{"pairs", "! 1"}, talk{"cost 3 5", ""}, talk{"pairs", "worst 3\nsmooth 1 0\ncheapest 5\neven 1"},
		talk{"lacks 2", "lacks 1"}, talk{"lacks 5", "count 2"}, talk{"pairing 5 1", "pairing 1 0"}, talk{"pairing 5 2", "! 5"},
		talk{"pairing 5 -1", "! 5"}, talk{"clear costs", ""}, talk{"pairs", "! 1"},
		talk{"cost 1 9", ""}, talk{"cost 1 9", ""}, talk{"lacks 5", "lacks 0 1"}, talk{"cost", ""}, talk{"lacks 5", "! 1"})
}

func TestOven(t *testing.T) {
	talks(t,
		talk{"row 0 ...", ""}, talk{"move 0 0 1 0", ""}, talk{"move 0 0 -1 0", ""}, talk{"kernel", "! 1"}, talk{"jolt 0 0", ""},
		talk{"kernel", "row 0 ..."}, talk{"choose 0 0 0", "choose 0"}, talk{"choose 0 2 0", "choose 1"}, talk{"choose 0 3 0", "! 1"},
		talk{"choose 0 0 1", "! 1"}, talk{"clear oven", ""}, talk{"kernel", "! 1"},
		talk{"row 0 ...", ""}, talk{"move 0 0 1 0", ""}, talk{"move 0 0 -1 0", ""}, talk{"jolt 1 0", ""}, talk{"jolt -1 0", ""},
		talk{"kernel", "row 0 .#."}, talk{"choose 0 1 0", "lost 1"}, talk{"play 0 0 0", ""},
		talk{"play 0 0 0 0 1", "cell 0 2 0\ncell 0 0 0"}, talk{"play 0 1 0 0", "! 5"}, talk{"play 0 0 0 2", "! 2"},
		talk{"play 0 0 0" + strings.Repeat(" 0", 201), "! 3"},
		talk{"phase", ""}, talk{"row 1 .", ""}, talk{"kernel", "! 1"},
		talk{"clear oven", ""}, talk{"row 1 .", "! 1"}, talk{"phase", ""}, talk{"row 1 ..", ""}, talk{"row 0 ..", ""}, talk{"row 0 ..", ""},
		talk{"row 1 .#", ""}, talk{"jolt 0 0", ""}, talk{"move 0 1 0 0", ""}, talk{"move 1 0 0 0", ""},
		talk{"kernel", "row 0 ..\nrow 0 .#\nrow 1 ..\nrow 1 .#"}, talk{"play 0 1 0 0 0", "cell 1 1 0\ncell 0 1 0"}, talk{"choose 0 1 1", "lost 1"},
		talk{"row 0 word", ""}, talk{"kernel", "! 1"})
}

func TestShaft(t *testing.T) {
	talks(t,
		talk{"power 2", ""}, talk{"job 0 4 2 2", ""}, talk{"job 0 4 2 2", ""}, talk{"shaft", "first 0 2\nshort 0 2\nend 4"},
		talk{"overfull", "fine"}, talk{"order 1 0", ""}, talk{"shaft", "first 2 0\nshort 2 0\nend 4"},
		talk{"power 0", "! 1"}, talk{"power 21", "! 1"}, talk{"shaft", "first 2 0\nshort 2 0\nend 4"},
		talk{"power 20", ""}, talk{"shaft", "! 1"}, talk{"power 2", ""}, talk{"job 0 3 2 2", ""}, talk{"job 0 3 2 2", ""},
		talk{"shaft", "refused yes"}, talk{"overfull", "overfull 0 3"}, talk{"order 0 0", ""}, talk{"shaft", "! 1"}, talk{"overfull", "! 1"},
		talk{"power 1", ""}, talk{"job 0 9 1 1", ""}, talk{"job 5 9 1 1", ""}, talk{"order 0 1", ""},
		talk{"shaft", "first 0 5\nshort 0 5\nend 6"}, talk{"job 1 2 3 4", ""}, talk{"shaft", "! 1"})
}

func TestClaims(t *testing.T) {
	talks(t,
		talk{"claims 2", ""}, talk{"attack 0 1", ""}, talk{"attack 1 0", ""}, talk{"granted", "granted\nideal"},
		talk{"preferred", "set 0\nset 1"}, talk{"stable", "set 0\nset 1"}, talk{"complete", "set\nset 0\nset 1"}, talk{"odd", "fine"},
		talk{"claims 0", "! 1"}, talk{"claims 13", "! 1"}, talk{"preferred", "set 0\nset 1"},
		talk{"claims 3", ""}, talk{"granted", "granted 0 1 2\nideal 0 1 2"}, talk{"attack 0 1", ""}, talk{"attack 1 2", ""},
		talk{"granted", "granted 0 2\nideal 0 2"}, talk{"attack 2 0", ""}, talk{"preferred", "set"}, talk{"stable", ""},
		talk{"odd", "odd 0 1 2"}, talk{"attack 3 0", ""}, talk{"odd", "! 1"}, talk{"granted", "! 1"}, talk{"preferred", "! 1"},
		talk{"stable", "! 1"}, talk{"complete", "! 1"},
		talk{"claims 4", ""}, talk{"attack 0 1", ""}, talk{"attack 1 0", ""}, talk{"attack 0 2", ""}, talk{"attack 1 2", ""}, talk{"attack 2 3", ""},
		talk{"granted", "granted\nideal"}, talk{"preferred", "set 0 3\nset 1 3"},
		talk{"claims 12", ""}, talk{"stable", "set 0 1 2 3 4 5 6 7 8 9 10 11"})
}

func TestRing(t *testing.T) {
	talks(t,
		talk{"ring chang 3 1 2", ""}, talk{"leaders", "leaders 0 0 0\nsent 0"}, talk{"start 0", ""}, talk{"start 0", "! 5"}, talk{"start 3", "! 1"},
		talk{"pass 0", ""}, talk{"pass 0", "! 5"}, talk{"pass 3", "! 1"}, talk{"pass 1", ""}, talk{"pass 2", ""}, talk{"leaders", "leaders 3 0 0\nsent 4"},
		talk{"pass 0", ""}, talk{"pass 1", ""}, talk{"pass 2", ""}, talk{"leaders", "leaders 3 3 3\nsent 6"},
		talk{"ring chang 1 1", "! 1"}, talk{"ring chang", "! 1"}, talk{"ring best 1", "! 2"}, talk{"ring", "! 2"}, talk{"leaders", "leaders 3 3 3\nsent 6"},
		talk{"ring peterson 7", ""}, talk{"start 0", ""}, talk{"pass 0", ""}, talk{"pass 0", ""}, talk{"leaders", "leaders 7\nsent 2"},
		// By the other rule 1 would not send what it receives on.
		talk{"ring peterson 1 2", ""}, talk{"start 0", ""}, talk{"pass 0", ""}, talk{"leaders", "leaders 0 0\nsent 3"},
		talk{"ring chang 1 2", ""}, talk{"start 0", ""}, talk{"pass 0", ""}, talk{"leaders", "leaders 0 0\nsent 2"})
}

func TestWork(t *testing.T) {
	talks(t,
		talk{"work 0", "! 1"}, talk{"ended", "! 6"}, talk{"work 2", ""}, talk{"work 11", "! 1"}, talk{"ended", "no"}, talk{"task 0 1", ""},
		talk{"task 1 0", "! 5"}, talk{"task 0 2", "! 1"}, talk{"idle 0", ""}, talk{"idle 0", "! 5"}, talk{"idle 2", "! 1"}, talk{"ended", "no"},
		talk{"deliver 1", "! 1"}, talk{"deliver 0", ""}, talk{"idle 1", ""}, talk{"ended", "no"}, talk{"deliver 0", ""}, talk{"ended", "yes"},
		talk{"work 1", ""}, talk{"ended", "no"}, talk{"idle 0", ""}, talk{"ended", "yes"})
	c := cutler.New()
	c.Line("work 2")
	for i := range 200 {
		if r := c.Line("task 0 1"); r != "" {
			t.Fatalf("task %d: %q", i, r)
		}
	}
	if r := c.Line("task 0 1"); r != "! 7\n" {
		t.Errorf("one task more: %q", r)
	}
}

func TestStore(t *testing.T) {
	long, value := strings.Repeat("k", 16), strings.Repeat("v", 64)
	talks(t,
		talk{"put a -", ""}, talk{"get -1 a", "value -"}, talk{"put - b", ""}, talk{"get -1 -", "value b"}, talk{"put " + long + " " + value, ""},
		talk{"scan -1", "entry - b\nentry a -\nentry " + long + " " + value}, talk{"put " + long + "k 1", "! 1"}, talk{"put a " + value + "v", "! 1"},
		talk{"delete " + long + "k", "! 1"}, talk{"get -1 " + long + "k", "! 1"}, talk{"get -2 a", "! 1"}, talk{"put a", "! 2"}, talk{"put a b c", "! 2"},
		talk{"view", "view 0"}, talk{"delete a", ""}, talk{"delete a", ""}, talk{"delete " + long, ""}, talk{"view", "view 1"},
		talk{"scan 0", "entry - b\nentry a -\nentry " + long + " " + value}, talk{"scan 1", "entry - b"},
		talk{"drop 0", ""}, talk{"drop 0", "! 1"}, talk{"scan 0", "! 1"}, talk{"view", "view 2"},
		talk{"put \t#\xff x", ""}, talk{"scan -1", "entry \t#\xff x\nentry - b"})
}

// What is done to the disk closes the store, or breaks it, until it is opened.
func TestDisk(t *testing.T) {
	talks(t,
		talk{"put a 1", ""}, talk{"view", "view 0"}, talk{"sync", ""}, talk{"restart 0", ""}, talk{"get -1 a", "value 1"}, talk{"get 0 a", "value 1"},
		talk{"put a 2", "! 6"}, talk{"delete a", "! 6"}, talk{"view", "! 6"}, talk{"drop 0", "! 6"}, talk{"sync", "! 6"}, talk{"flush", "! 6"},
		talk{"compact", "! 6"}, talk{"arm 0", ""}, talk{"open", ""}, talk{"get 0 a", "! 1"}, talk{"get -1 a", "value 1"},
		talk{"arm 1", ""}, talk{"put a 2", "! 8"}, talk{"put a 3", "! 6"}, talk{"scan -1", "entry a 1"},
		// The disk is down: there is no store any more.
		talk{"open", "! 8"}, talk{"get -1 a", "! 6"}, talk{"get 5 a", "! 6"}, talk{"scan -1", "! 6"}, talk{"put a 1", "! 6"}, talk{"delete a", "! 6"}, talk{"view", "! 6"},
		talk{"drop 0", "! 6"}, talk{"sync", "! 6"}, talk{"flush", "! 6"}, talk{"compact", "! 6"}, talk{"get a", "! 2"}, talk{"arm 3", ""}, talk{"open", "! 8"},
		talk{"try open", "! 8"}, talk{"try restart 0", ""}, talk{"open", "! 8"}, talk{"restart -1", ""}, talk{"get -1 a", "! 6"}, talk{"try open", ""}, talk{"get -1 a", "! 6"}, talk{"open", ""},
		talk{"scan -1", "entry a 1"}, talk{"view", "view 0"}, talk{"open", ""}, talk{"scan 0", "! 1"}, talk{"scan -1", "entry a 1"})
}

func TestTry(t *testing.T) {
	talks(t,
		talk{"try", "! 2"}, talk{"try ", "! 2"}, talk{"try try", "! 2"}, talk{"try try even 2 1", "! 2"}, talk{"try  even 2 1", "! 2"}, talk{"try tryst", "! 2"},
		talk{"try even 2 1", "even aab"}, talk{"try even 2 1 ", "! 2"}, talk{"try #", ""}, talk{"try #try", ""}, talk{"tried even 2 1", "! 2"}, talk{"Try even 2 1", "! 2"},
		talk{"try wheels 3", ""}, talk{"speeds", "speeds 1"}, talk{"try view", "view 0"}, talk{"try view", "view 0"}, talk{"view", "view 0"},
		talk{"try put a 1", ""}, talk{"try arm 1", ""}, talk{"put a 2", ""}, talk{"try restart 0", ""}, talk{"put b 3", ""}, talk{"scan -1", "entry a 2\nentry b 3"},
		talk{"try wheels 11", "! 1"}, talk{"try " + strings.Repeat("#", 996), ""}, talk{"try " + strings.Repeat("#", 997), "! 3"})
}

func TestMalformed(t *testing.T) {
	talks(t,
		talk{"", ""}, talk{"#", ""}, talk{"# even  2 1", ""}, talk{" #", "! 2"}, talk{" ", "! 2"}, talk{" even 2 1", "! 2"}, talk{"even 2 1 ", "! 2"}, talk{"even  2 1", "! 2"},
		talk{"even 2  1", "! 2"}, talk{"even\t2 1", "! 2"}, talk{"even 2 1\r", "! 2"}, talk{"EVEN 2 1", "! 2"}, talk{"evens 2 1", "! 2"}, talk{"eve", "! 2"},
		talk{"even 2", "! 2"}, talk{"even 2 1 1", "! 2"}, talk{"speeds 1", "! 2"}, talk{"speeds ", "! 2"}, talk{"clear", "! 2"}, talk{"clear rivers", "! 2"},
		talk{"clear oven river", "! 2"}, talk{"clear WHAT", "! 2"}, talk{"ring RULE 1", "! 2"}, talk{"ring Chang 1", "! 2"}, talk{"place", "! 2"}, talk{"faces", "! 2"},
		talk{"train 1 1", "! 2"}, talk{"play 0 0", "! 2"}, talk{"row 0", "! 2"}, talk{"row x .", "! 2"}, talk{"row 0 ", "! 2"}, talk{"row  .", "! 2"},
		talk{"put a ", "! 2"}, talk{"put  a", "! 2"}, talk{"delete ", "! 2"}, talk{"get 0 ", "! 2"}, talk{"rhythm ", "! 2"}, talk{"lives ", "! 2"}, talk{"cost ", "! 2"},
		talk{"calls 1 ", "! 2"}, talk{"ring chang ", "! 2"}, talk{"scan -1", ""}, talk{"! 2", "! 2"}, talk{"...", "! 2"}, talk{"calls x", "! 2"},
		talk{"even 2 1\n", "even aab"}, talk{"even 2 1\nspeeds", "even aab"}, talk{"\neven 2 1", ""}, talk{"even 2 1\n" + strings.Repeat("x", 2000), "even aab"},
		talk{strings.Repeat("x", 1000), "! 2"}, talk{strings.Repeat("x", 1001), "! 3"}, talk{strings.Repeat("#", 1000), ""}, talk{strings.Repeat("#", 1001), "! 3"},
		talk{strings.Repeat(" ", 1001), "! 3"}, talk{"even" + strings.Repeat(" ", 1000), "! 3"}, talk{"try " + strings.Repeat("x", 997), "! 3"})
}

func TestNumbers(t *testing.T) {
	c := cutler.New()
	for word, good := range map[string]bool{
		"0": true, "-1": true, "7": true, "10": true, "999999999": true, "-999999999": true, "100000000": true,
		"-0": false, "00": false, "01": false, "-01": false, "+1": false, "--1": false, "-": false, "1-": false, "1.0": false,
		"1000000000": false, "-1000000000": false, "0000000001": false, "1e3": false, "0x1": false, "1_0": false, "٣": false,
		"1/2": false, "x": false, "99999999999999999999": false, "\x001": false, "1\x00": false, "-9223372036854775808": false,
	} {
		want := map[bool]string{true: "", false: "! 2\n"}[good]
		if r := c.Line("restart " + word); r != want {
			t.Errorf("restart %q: %q", word, r)
		}
	}
}

func TestNums(t *testing.T) {
	digits := strings.Repeat("7", 900)
	c := cutler.New()
	for word, good := range map[string]bool{
		"0": true, "-1": true, "1/2": true, "-12/5": true, "1000000000": true, digits: true, "1/" + digits: true, "-" + digits + "/2": true,
		"-0": false, "01": false, "1/1": false, "2/4": false, "1/0": false, "0/2": false, "1/-2": false, "+1": false, "1/02": false, "1/": false, "/2": false,
		"1/2/3": false, "": false, "-": false, "x": false, "1.5": false, "-/2": false, digits + "/7": false, "1e3": false, "1_0": false, "0x1": false, "٣": false,
	} {
		want := map[bool]string{true: "", false: "! 2\n"}[good]
		for _, line := range []string{"lives " + word, "lives 1/3 " + word} {
			if r := c.Line(line); r != want {
				t.Errorf("%q: %q", line, r)
			}
		}
		if r := c.Line("replace 1 " + word); !good && r != want {
			t.Errorf("replace 1 %q: %q", word, r)
		}
	}
}

// Of what there may be only so many, one more is refused, and nothing else changes.
func TestLimits(t *testing.T) {
	for _, c := range []struct {
		line, clear string
		most        int
	}{
		{"belt 0 1 1 1", "wheels 2", api.MaxBelts}, {"place 1 1", "clear river", api.MaxPlaces}, {"cost 1", "clear costs", api.MaxBlades},
		{"phase", "clear oven", api.MaxPhases - 1}, {"row 0 .", "clear oven", api.MaxGrid}, {"move 0 0 0 0", "clear oven", api.MaxMoves},
		{"jolt 0 0", "clear oven", api.MaxJolts}, {"job 0 1 1 1", "power 1", api.MaxJobs}, {"order 0 1", "power 1", api.MaxOrders},
		{"attack 0 0", "claims 1", api.MaxAttacks},
	} {
		shop := cutler.New()
		for range 2 {
			for i := range c.most {
				if r := shop.Line(c.line); r != "" {
					t.Fatalf("%q for the %d-th time: %q", c.line, i+1, r)
				}
			}
			if r := shop.Line(c.line); r != "! 7\n" {
				t.Errorf("%q more than %d times: %q", c.line, c.most, r)
			}
			if r := shop.Line(c.clear); r != "" {
				t.Errorf("%q: %q", c.clear, r)
			}
		}
	}
	shop := cutler.New()
	for i := range api.MaxViews {
		if r := shop.Line("view"); r != "view "+strconv.Itoa(i)+"\n" {
			t.Errorf("view %d: %q", i, r)
		}
	}
	if r := shop.Line("view"); r != "! 7\n" {
		t.Errorf("one view more: %q", r)
	}
	for range 15 {
		shop.Line("row 0 .")
	}
	shop.Line("phase")
	talk := []string{"row 1 .", "row 0 .", "row 0 .", "row 1 ."}
	for i, want := range []string{"", "", "! 7\n", ""} {
		if r := shop.Line(talk[i]); r != want {
			t.Errorf("%q: %q, want %q", talk[i], r, want)
		}
	}
}

// What is cleared is as at first, and the rest stays.
func TestClear(t *testing.T) {
	fill := []string{
		"place 2 5 1", "cost 1", "phase", "row 0 .", "row 1 .", "move 0 0 0 0", "move 1 1 0 0", "jolt 0 0",
	}
	asked := []string{"river", "pairs", "kernel"}
	for i, what := range []string{"river", "costs", "oven"} {
		c := cutler.New()
		for _, line := range fill {
			c.Line(line)
		}
		var before []string
		for _, line := range asked {
			before = append(before, c.Line(line))
		}
		if slices.Contains(before, "! 1\n") {
			t.Fatalf("before: %q", before)
		}
		if r := c.Line("clear " + what); r != "" {
			t.Errorf("clear %s: %q", what, r)
		}
		before[i] = "! 1\n"
		for j, line := range asked {
			if r := c.Line(line); r != before[j] {
				t.Errorf("after clear %s: %q: %q; want %q", what, line, r, before[j])
			}
		}
		if what != "oven" {
			continue
		}
		for _, x := range []talk{{"row 1 .", "! 1\n"}, {"row 0 .", ""}, {"kernel", "! 1\n"}, {"jolt 0 0", ""}, {"kernel", "row 0 #\n"}} {
			if r := c.Line(x.line); r != x.reply {
				t.Errorf("after clear oven: %q: %q", x.line, r)
			}
		}
	}
}

// Each command with one word too few, and with one too many.
func TestWordCounts(t *testing.T) {
	c := cutler.New()
	count := 0
	for _, row := range strings.Split(strings.TrimSpace(table), "\n") {
		row = strings.ReplaceAll(strings.ReplaceAll(row, "river|costs|oven", "oven"), "chang|peterson", "chang")
		fixed, open := strings.CutSuffix(row, "...")
		words := strings.Split(fixed, " ")
		for i := range words[1:] {
			if kind := words[i+1]; len(kind) == 1 {
				words[i+1] = "1"
			}
		}
		if open {
			words = words[:len(words)-1]
		} else if r := c.Clone().Line(strings.Join(words, " ") + " 1"); r != "! 2\n" {
			t.Errorf("%s: with one word more: %q", row, r)
		}
		if r := c.Clone().Line(strings.Join(words, " ")); r == "! 2\n" && words[0] != "scroll" && words[0] != "faces" && words[0] != "rhythm" {
			t.Errorf("%s: %q", row, r)
		}
		if r := c.Clone().Line(strings.Join(words[:len(words)-1], " ")); len(words) > 1 && r != "! 2\n" {
			t.Errorf("%s: with one word less: %q", row, r)
		}
		count++
	}
	if count != len(known) || count != 71 {
		t.Errorf("%d commands, %d of them different", count, len(known))
	}
}

// Each command with the least and the greatest numbers, and then what the workshop makes of them.
func TestExtremes(t *testing.T) {
	for _, extreme := range []string{"999999999", "-999999999", "0"} {
		c, w := cutler.New(), &workshop{}
		for range 2 {
			for _, row := range strings.Split(strings.TrimSpace(table), "\n") {
				words := strings.Split(row, " ")
				for i := range words[1:] {
					switch kind := strings.TrimSuffix(words[i+1], "..."); kind {
					case "N", "Q":
						words[i+1] = extreme
					default:
						words[i+1] = strings.Split(kind, "|")[0]
					}
				}
				if words[0] == "clear" {
					continue // so that what was filled in is asked for
				}
				line := strings.Join(words, " ")
				if got, want := c.Line(line), w.reply(line); got != want {
					t.Errorf("%q after %q: %q; want %q", line, w.lines, got, want)
				}
			}
		}
	}
}

func TestRun(t *testing.T) {
	many := strings.Repeat("even 2 1\n", api.MaxLines)
	for _, c := range []struct {
		s, replies string
		e          api.Errno
	}{
		{"", "", api.OK}, {"\n", "", api.OK}, {"even 2 1", "even aab\n", api.OK}, {"even 2 1\n", "even aab\n", api.OK},
		{"wheels 2\nspeeds\n\n# no\nspeed\nwheels 1\nspeeds", "speeds 1 1\n! 2\nspeeds 1\n", api.OK}, {" ", "! 2\n", api.OK},
		{"even 2 1\r\neven 3 2", "! 2\neven aabab\n", api.OK}, {strings.Repeat("x", 1001) + "\neven 2 1", "! 3\neven aab\n", api.OK},
		{many, strings.Repeat("even aab\n", api.MaxLines), api.OK}, {many[:len(many)-1], strings.Repeat("even aab\n", api.MaxLines), api.OK},
		{many + "#", "", api.ErrLong}, {many + "\n", "", api.ErrLong}, {strings.Repeat("\n", api.MaxLines), "", api.OK},
		{strings.Repeat("\n", api.MaxLines+1), "", api.ErrLong}, {strings.Repeat("\n", api.MaxLines-1) + "even 2 1", "even aab\n", api.OK},
	} {
		if replies, e := cutler.Run(c.s); replies != c.replies || e != c.e {
			t.Errorf("Run(%.40q..) = %.60q.., %d", c.s, replies, e)
		}
	}
	// Each run has a workshop of its own.
	for range 2 {
		if replies, e := cutler.Run("put a 1\nview\nwheels 2\nspeeds\n"); replies != "view 0\nspeeds 1 1\n" || e != api.OK {
			t.Errorf("Run = %q, %d", replies, e)
		}
	}
}

func TestRunIsLines(t *testing.T) {
	m := newScripts(1)
	for range 40 {
		script := strings.Join(m.script(60), "\n") + "\n"
		c, want := cutler.New(), ""
		for _, line := range strings.Split(strings.TrimSuffix(script, "\n"), "\n") {
			want += c.Line(line)
		}
		if replies, e := cutler.Run(script); replies != want || e != api.OK {
			t.Fatalf("Run(%q) = %q, %d; want %q", script, replies, e, want)
		}
	}
}

// Workshops that no function returned refuse every line.
func TestStrangers(t *testing.T) {
	copied := *cutler.New()
	for name, c := range map[string]*cutler.Cutler{"nil": nil, "zero": {}, "copied": &copied} {
		for _, line := range []string{"", "#", "even 2 1", "speeds", "x", " ", "try", "try speeds", "open", strings.Repeat("x", 1001)} {
			if r := c.Line(line); r != "! 6\n" {
				t.Errorf("%s: %.20q: %q", name, line, r)
			}
		}
		if c.Clone() != nil {
			t.Errorf("%s: Clone is there", name)
		}
	}
}

// Workshops and their clones are independent, whatever is done to which of them.
func TestClone(t *testing.T) {
	for seed := range int64(120) {
		m := newScripts(seed)
		shops, models := []*cutler.Cutler{cutler.New()}, []*workshop{{}}
		for _, line := range m.script(120) {
			i := m.Intn(len(shops))
			if m.Intn(10) == 0 && len(shops) < 8 {
				shops = append(shops, shops[i].Clone())
				models = append(models, &workshop{slices.Clone(models[i].lines)})
			}
			got, want := shops[i].Line(line), models[i].reply(line)
			if got != want {
				t.Fatalf("seed %d: %q after %q: %q; want %q", seed, line, models[i].lines, got, want)
			}
		}
	}
}
