package command_test

import (
	"slices"
	"strings"
	"testing"
	"unsafe"

	"millpond/api"
	"millpond/command"
)

// Rule 4: nothing that is handed in is changed or kept, and what is told is new memory

func TestArgumentsStay(t *testing.T) {
	for _, line := range []string{"GET K behind", "MSET A 1 B 2 behind", "NOPE K behind", "GET behind", "DEL A B C behind", "PING behind"} {
		all := strings.Fields(line)
		was := slices.Clone(all)
		args := all[:len(all)-1] // with room behind them, that is not theirs
		command.Check(args...)
		command.Keys(args...)
		command.Look(args[0])
		command.Lower(args[0])
		command.Plain(args[0])
		if !slices.Equal(all, was) {
			t.Errorf("the arguments are %q now; they were %q", all, was)
		}
	}
}

// lent is a text whose bytes the test may write over.
func lent(text string) (string, []byte) {
	memory := []byte(text)
	return unsafe.String(&memory[0], len(memory)), memory
}

// What was told stays when the bytes of what was handed in are written over.
func TestNoTextIsKept(t *testing.T) {
	long := strings.Repeat("unknown ", 20)
	for _, line := range []string{"get key", "GET KEY", "mset key1 value1 key2 value2", "rename key1 key2", "sunionstore key1 key2 key3", "nope key", "get\x01\xff key", "keys pattern", "get", "GeT a b", long} {
		text, memory := lent(line)
		args := strings.Fields(text)
		spec, r, ok := command.Check(args...)
		keys, e := command.Keys(args...)
		looked, known := command.Look(args[0])
		lower, plain := command.Lower(text), command.Plain(text)
		copy(memory, strings.Repeat("#", len(memory)))

		own := strings.Fields(line)
		wantSpec, wantReply, wantOK := command.Check(own...)
		if spec != wantSpec || r.S != wantReply.S || r.Kind != wantReply.Kind || ok != wantOK {
			t.Errorf("Check of %q, which is written over, = %+v, %+v", line, spec, r)
		}
		wantKeys, wantE := command.Keys(own...)
		if !slices.Equal(keys, wantKeys) || e != wantE {
			t.Errorf("Keys of %q, which is written over, = %q", line, keys)
		}
		if want, there := command.Look(own[0]); looked != want || known != there {
			t.Errorf("Look of %q, which is written over, = %+v", own[0], looked)
		}
		if lower != modelLower(line) || plain != modelPlain(line) {
			t.Errorf("Lower and Plain of %q, which is written over, = %q, %q", line, lower, plain)
		}
	}
}

// No text that is told lies where another one, or one that was handed in, does.
func TestTextsToldShareNoMemory(t *testing.T) {
	seen := map[*byte]string{}
	see := func(from string, texts ...string) {
		for _, x := range texts {
			if len(x) < 2 { // Go itself lays texts of one byte in one place
				t.Fatalf("%s tells %q", from, x)
			}
			at := unsafe.StringData(x)
			if other, there := seen[at]; there {
				t.Errorf("%s tells %q, which lies where something of %s does", from, x, other)
			}
			seen[at] = from
		}
	}
	args := []string{"mset", "key1", "value1", "key2", "value2"}
	see("the arguments", args...)
	for range 2 {
		for _, s := range command.All() {
			see("All", s.Name)
		}
		for _, s := range listed() {
			for _, text := range []string{s.Name, strings.ToUpper(s.Name)} {
				looked, _ := command.Look(text)
				see("Look", looked.Name)
			}
		}
		spec, _, _ := command.Check(args...)
		see("Check", spec.Name)
		for _, wrong := range [][]string{nil, {"nope"}, {"mset"}} {
			_, r, _ := command.Check(wrong...)
			see("Check with an error", r.S)
		}
		keys, _ := command.Keys(args...)
		see("Keys", keys...)
		see("Lower", command.Lower("small"), command.Lower("GREAT"))
		see("Plain", command.Plain("plain"), command.Plain("not\x00plain"))
	}
}

// Lists that are told share nothing with the arguments, nor with other answers.
func TestKeysAgainWhenWhatTheyToldIsChanged(t *testing.T) {
	args := []string{"mget", "a", "b", "c"}
	first, _ := command.Keys(args...)
	second, _ := command.Keys(args...)
	second = second[:cap(second)]
	for i := range second {
		second[i] = "changed"
	}
	again, e := command.Keys(args...)
	want := []string{"a", "b", "c"}
	if !slices.Equal(first, want) || !slices.Equal(again, want) || e != api.OK || !slices.Equal(args[1:], want) {
		t.Errorf("Keys, when those told are changed, = %q, %q; the arguments are %q", first, again, args)
	}
	args[1], args[2], args[3] = "x", "y", "z"
	if !slices.Equal(first, want) {
		t.Errorf("Keys told %q when the arguments are changed", first)
	}
}

// Rule 5: the same again, whatever was asked ahead, and by several at once.
func TestTheSameAgain(t *testing.T) {
	done := make(chan bool)
	for g := range 4 {
		go func() {
			defer func() { done <- true }()
			all := listed()
			for i := range 400 {
				s := all[(i*7+g)%len(all)]
				checkSame(t, s)
				if i%100 == g {
					checkSorted(t, command.All())
				}
			}
		}()
	}
	for range 4 {
		<-done
	}
}

func checkSame(t *testing.T, want api.Spec) {
	for range 2 {
		if s, ok := command.Look(strings.ToUpper(want.Name)); s != want || !ok {
			t.Errorf("Look of %s = %+v, %t", want.Name, s, ok)
		}
	}
}

func checkSorted(t *testing.T, all []api.Spec) {
	want := listed()
	slices.SortFunc(want, func(a, b api.Spec) int { return strings.Compare(a.Name, b.Name) })
	if !slices.Equal(all, want) {
		t.Errorf("All = %+v", all)
	}
}
