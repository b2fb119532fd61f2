package strs_test

import (
	"math/rand/v2"
	"strconv"
	"strings"
	"testing"

	"millpond/api"
)

// Each option alone, and what it tells.
func TestSet(t *testing.T) {
	check(t, api.RolePrimary, 10,
		row{"", "SET k v", "+OK", "SET k v", "k=v"}, row{"k=w", "SET k v", "+OK", "SET k v", "k=v"}, row{"k=w@11", "SET k v", "+OK", "SET k v", "k=v"}, row{"k=w@10", "SET k v", "+OK", "DEL k | SET k v", "k=v"}, row{"k=w", "SET k ''", "+OK", "SET k ''", "k="}, row{"j=u", "SET ''  v", "+OK", "SET '' v", "=v j=u"},
		row{"", "SET k v NX", "+OK", "SET k v", "k=v"}, row{"k=w", "SET k v NX", "nil", "", "="}, row{"k=w@10", "SET k v NX", "+OK", "DEL k | SET k v", "k=v"}, row{"k:list", "SET k v NX", "nil", "", "="},
		row{"", "SET k v XX", "nil", "", "="}, row{"k=w@11", "SET k v XX", "+OK", "SET k v", "k=v"}, row{"k=w@10", "SET k v XX", "nil", "DEL k", ""}, row{"k:list@11", "SET k v XX", "+OK", "SET k v", "k=v"},
		row{"", "SET k v GET", "nil", "SET k v", "k=v"}, row{"k=w@11", "SET k v GET", "$w", "SET k v", "k=v"}, row{"k=", "SET k v GET", "$", "SET k v", "k=v"}, row{"k=w@10", "SET k v GET", "nil", "DEL k | SET k v", "k=v"}, row{"k:list", "SET k v GET", "-WRONG", "", "="},
		row{"", "SET k v KEEPTTL", "+OK", "SET k v", "k=v"}, row{"k=w", "SET k v KEEPTTL", "+OK", "SET k v", "k=v"}, row{"k=w@11", "SET k v KEEPTTL", "+OK", "SET k v PXAT 11", "k=v@11"}, row{"k=w@10", "SET k v KEEPTTL", "+OK", "DEL k | SET k v", "k=v"}, row{"k:hash@11", "SET k v KEEPTTL", "+OK", "SET k v PXAT 11", "k=v@11"}, row{"k:hash", "SET k v KEEPTTL", "+OK", "SET k v", "k=v"},
		row{"", "SET k v EX 2", "+OK", "SET k v PXAT 2010", "k=v@2010"}, row{"k=w@11", "SET k v PX 2", "+OK", "SET k v PXAT 12", "k=v@12"}, row{"k:set", "SET k v EXAT 2", "+OK", "SET k v PXAT 2000", "k=v@2000"}, row{"k=w@10", "SET k v PXAT 2", "+OK", "DEL k | SET k v PXAT 2", "k=v@2"},
	)
}

// What is kept is the end itself, also one that is over, where no clock counts.
func TestSetByTheStream(t *testing.T) {
	for _, role := range []api.Role{api.RoleStream, 0, 4} {
		check(t, role, 10,
			row{"k=w@0", "SET k v KEEPTTL", "+OK", "SET k v PXAT 0", "k=v@0"}, row{"k=w@9", "SET k v KEEPTTL GET", "$w", "SET k v PXAT 9", "k=v@9"}, row{"k=w@9", "SET k v NX", "nil", "", "="}, row{"k=w@9", "SET k v XX", "+OK", "SET k v", "k=v"}, row{"k:set@9", "SET k v GET", "-WRONG", "", "="},
			row{"", "SET k v PX 1", "+OK", "SET k v PXAT 11", "k=v@11"},
		)
	}
}

// What changes nothing tells nothing: where the value and the end are as they were, too.
func TestSetOfWhatIsThere(t *testing.T) {
	check(t, api.RolePrimary, 10,
		row{"k=v", "SET k v", "+OK", "", "="}, row{"k=v@11", "SET k v KEEPTTL", "+OK", "", "="}, row{"k=v@11", "SET k v PX 1", "+OK", "", "="}, row{"k=v@2000", "SET k v EXAT 2 GET", "$v", "", "="}, row{"k=v", "SET k v XX", "+OK", "", "="},
		row{"k=v@11", "SET k v", "+OK", "SET k v", "k=v"}, row{"k=v", "SET k v PX 1", "+OK", "SET k v PXAT 11", "k=v@11"}, row{"k=v@11", "SET k w KEEPTTL", "+OK", "SET k w PXAT 11", "k=w@11"}, row{"k=v@9", "SET k v PXAT 9", "+OK", "DEL k | SET k v PXAT 9", "k=v@9"},
		row{"k=v@2010", "SETEX k 2 v", "+OK", "", "="}, row{"k=v@2010", "PSETEX k 2000 v", "+OK", "", "="}, row{"k=v@2010", "PSETEX k 1999 v", "+OK", "SET k v PXAT 2009", "k=v@2009"},
	)
}

func TestSetWithSeveralOptions(t *testing.T) {
	check(t, api.RolePrimary, 10,
		row{"", "SET k v NX GET", "nil", "SET k v", "k=v"}, row{"k=w@11", "SET k v GET NX", "$w", "", "="}, row{"k=w@10", "SET k v GET NX", "nil", "DEL k | SET k v", "k=v"}, row{"k:zset", "SET k v NX GET", "-WRONG", "", "="},
		row{"", "SET k v XX GET", "nil", "", "="}, row{"k=w", "SET k v GET XX", "$w", "SET k v", "k=v"}, row{"k=w@10", "SET k v XX GET", "nil", "DEL k", ""}, row{"k:zset", "SET k v XX GET", "-WRONG", "", "="},
		row{"k=w@11", "SET k v KEEPTTL GET XX", "$w", "SET k v PXAT 11", "k=v@11"}, row{"", "SET k v EX 1 NX", "+OK", "SET k v PXAT 1010", "k=v@1010"}, row{"k=w", "SET k v NX EX 1 GET", "$w", "", "="},
		row{"k=w", "SET k v XX XX XX", "+OK", "SET k v", "k=v"}, row{"", "SET k v NX NX", "+OK", "SET k v", "k=v"}, row{"k=w", "SET k v GET GET", "$w", "SET k v", "k=v"}, row{"k=w", "set k v gEt Px 5 Xx GeT xX", "$w", "SET k v PXAT 15", "k=v@15"},
	)
}

func TestSetWithWrongOptions(t *testing.T) {
	for _, options := range []string{
		"FOO", "''", "NXX", "N", "KEEP", "KEEPTTL1", "EX2", "5", "NX XX", "XX NX", "NX GET XX", "XX EX 5 NX", "NX NX XX",
		"EX", "PX", "EXAT", "PXAT", "NX EX", "GET PXAT", "EX 1 EX", "EX 1 PX 1", "EX 1 EX 1", "PX 1 PX 1", "EXAT 1 EXAT 1", "PXAT 1 PXAT 1", "KEEPTTL KEEPTTL", "KEEPTTL EX 1", "EX 1 KEEPTTL", "PX 1 EXAT 1", "EXAT 1 PXAT 1", "PXAT 1 EX 1", "KEEPTTL NX KEEPTTL", "KEEPTTL PXAT 1", "PXAT 1 NX KEEPTTL",
		"EX x FOO", "FOO EX x", "EX x NX XX", "EX 0 FOO", "EX x PX x", "EX EX 1", "PX NX 5", "EX x EX", "KEEPTTL EX x", "EX x KEEPTTL", "PXAT -1 GET 5",
		"GE\u0167", "\u212aEEPTTL", "PER\u017fIST", "PERSIST",
	} {
		for _, before := range []string{"", "k=w@11", "k=w@10", "k:list"} {
			check(t, api.RolePrimary, 10, row{before, "SET k v " + options, "-SYNTAX", "", "="})
		}
	}
	for _, option := range []string{"EX", "PX", "EXAT", "PXAT"} {
		for _, n := range []string{"''", "x", "1.5", "+1", "01", "-0", "1x", "0x1", "9223372036854775808", "-9223372036854775809", "NX", "GET", "EX", "PX", "KEEPTTL", "٣"} {
			for _, more := range []string{"", " NX", " XX GET", " GET"} {
				for _, before := range []string{"", "k=w@10", "k:list"} {
					check(t, api.RolePrimary, 10, row{before, "SET k v " + option + " " + n + more, "-NUMBER", "", "="}, row{before, "SET k v" + more + " " + option + " " + n, "-NUMBER", "", "="})
				}
			}
		}
	}
}

// The least and the greatest times: at Now 10 the last whole second of EX is 1099511627, of EXAT the same; 2^40 is 1099511627776.
func TestTheEndsOfTimes(t *testing.T) {
	for _, x := range []struct {
		now   int
		end   string
		at    string
		ofSet bool // of SET alone: there is no SETEX with it
	}{
		{10, "EX 1", "1010", false}, {10, "EX 0", "", false}, {10, "EX -1", "", false}, {10, "EX 1099511627", "1099511627010", false}, {10, "EX 1099511628", "", false}, {776, "EX 1099511627", "1099511627776", false}, {777, "EX 1099511627", "", false}, {777, "EX 1099511626", "1099511626777", false}, {0, "EX 1099511627", "1099511627000", false},
		{10, "EX 1099511627776", "", false}, {10, "EX 1099511627777", "", false}, {10, "EX 9223372036854775807", "", false}, {10, "EX -9223372036854775808", "", false}, {10, "EX -1099511627777", "", false}, {1 << 40, "EX 1", "", false},
		{10, "PX 1", "11", false}, {10, "PX 0", "", false}, {10, "PX -1", "", false}, {10, "PX 1099511627766", "1099511627776", false}, {10, "PX 1099511627767", "", false}, {0, "PX 1099511627776", "1099511627776", false}, {0, "PX 1099511627777", "", false}, {1 << 40, "PX 1", "", false}, {1<<40 - 1, "PX 1", "1099511627776", false}, {10, "PX 9223372036854775807", "", false}, {10, "PX -9223372036854775808", "", false}, {10, "PX -9223372036854775807", "", false},
		{10, "EXAT 0", "0", true}, {10, "EXAT -1", "", true}, {10, "EXAT 1", "1000", true}, {10, "EXAT 1099511627", "1099511627000", true}, {10, "EXAT 1099511628", "", true}, {1 << 40, "EXAT 1099511627", "1099511627000", true}, {1 << 40, "EXAT 1", "1000", true}, {10, "EXAT 9223372036854775807", "", true}, {10, "EXAT -9223372036854775808", "", true},
		{10, "PXAT 0", "0", true}, {10, "PXAT -1", "", true}, {10, "PXAT 1", "1", true}, {10, "PXAT 1099511627776", "1099511627776", true}, {10, "PXAT 1099511627777", "", true}, {1 << 40, "PXAT 1099511627776", "1099511627776", true}, {1 << 40, "PXAT 5", "5", true}, {10, "PXAT 9223372036854775807", "", true}, {10, "PXAT -9223372036854775808", "", true},
	} {
		reply, told, after := "+OK", "SET k v PXAT "+x.at, "k=v@"+x.at
		if x.at == "" {
			reply, told, after = "-TIME", "", "="
		}
		for _, role := range roles {
			check(t, role, x.now, row{"", "SET k v " + x.end, reply, told, after}, row{"", "SET k v NX " + x.end, reply, told, after}, row{"k:list", "SET k v " + x.end + " XX", reply, told, after})
		}
		toldAlso := told
		if x.at != "" {
			toldAlso = "DEL k | " + told
		}
		check(t, api.RolePrimary, x.now, row{"k=w@0", "SET k v " + x.end, reply, toldAlso, after})
		if !x.ofSet {
			option, n, _ := strings.Cut(x.end, " ")
			name := map[string]string{"EX": "SETEX", "PX": "PSETEX"}[option]
			check(t, api.RoleStream, x.now, row{"", name + " k " + n + " v", reply, told, after}, row{"k:hash@3", name + " k " + n + " v", reply, told, after})
		}
	}
	check(t, api.RolePrimary, 10, row{"k:list", "SET k v GET EX 0", "-TIME", "", "="}, row{"k:list", "SET k v EX x GET", "-NUMBER", "", "="}, row{"k=w", "SET k v NX EX 0", "-TIME", "", "="}, row{"", "SET k v XX PXAT -1", "-TIME", "", "="})
}

func TestSetEx(t *testing.T) {
	check(t, api.RolePrimary, 10,
		row{"", "SETEX k 2 v", "+OK", "SET k v PXAT 2010", "k=v@2010"}, row{"k=w", "SETEX k 2 v", "+OK", "SET k v PXAT 2010", "k=v@2010"}, row{"k=w@10", "SETEX k 2 ''", "+OK", "DEL k | SET k '' PXAT 2010", "k=@2010"}, row{"k:list@11", "SETEX k 2 v", "+OK", "SET k v PXAT 2010", "k=v@2010"},
		row{"", "PSETEX k 2 v", "+OK", "SET k v PXAT 12", "k=v@12"}, row{"k=w", "PSETEX k 2 v", "+OK", "SET k v PXAT 12", "k=v@12"}, row{"k=w@10", "PSETEX k 2 ''", "+OK", "DEL k | SET k '' PXAT 12", "k=@12"}, row{"k:list@11", "PSETEX k 2 v", "+OK", "SET k v PXAT 12", "k=v@12"},
		row{"k=w@10", "SETEX k x v", "-NUMBER", "", "="}, row{"k=w@10", "PSETEX k '' v", "-NUMBER", "", "="}, row{"k=w@10", "SETEX k 0 v", "-TIME", "", "="}, row{"k=w@10", "PSETEX k -5 v", "-TIME", "", "="}, row{"k=w@10", "setEX k 1099511628 v", "-TIME", "", "="}, row{"k=w@10", "pSETex k 1099511627767 v", "-TIME", "", "="},
	)
	for name, n := range map[string]string{"SET k v EX": "-1", "SETEX k -1": "v", "PSETEX k -1": "v"} {
		command := modelLower(strings.Fields(name)[0])
		check(t, api.RolePrimary, 10, row{"k=w", name + " " + n, "-ERR invalid expire time in '" + command + "' command", "", "="})
	}
}

// All rows of up to three words of options, in any order, and longer ones by chance, on keys of all sorts.
func TestSetWithOptionsInAnyOrder(t *testing.T) {
	option := strings.Fields("nx xx get keepttl ex px exat pxat 5 0 -1 x '' NX")
	befores := []string{"", "k=w", "k=w@10", "k=w@11", "k:list@11", "k=v"}
	var try func(text string, more int)
	try = func(text string, more int) {
		for _, before := range befores {
			newTrio(t, entries(before)).do(t, api.Call{Role: api.RolePrimary, Now: 10, Args: words(text)})
		}
		if more > 0 {
			for _, word := range option {
				try(text+" "+word, more-1)
			}
		}
	}
	try("set k v", 3)
	m := rand.New(rand.NewPCG(12, 1))
	for range 30000 {
		text := "SET k " + strconv.Itoa(m.IntN(2))
		for range 4 + m.IntN(5) {
			text += " " + option[m.IntN(len(option))]
			if m.IntN(3) == 0 {
				text = mixed(text)
			}
		}
		text = strings.Replace(text, "S", "s", 1)
		args := words(text)
		args[1] = "k"
		newTrio(t, entries(befores[m.IntN(len(befores))])).do(t, api.Call{Role: roles[m.IntN(len(roles))], Now: 10, Args: args})
	}
}
