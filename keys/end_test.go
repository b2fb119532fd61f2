package keys_test

import (
	"math"
	"strconv"
	"testing"

	"millpond/api"
	"millpond/keys"
)

// endings are the commands that give a key an end.
var endings = []string{"EXPIRE", "PEXPIRE", "EXPIREAT", "PEXPIREAT"}

func TestExpire(t *testing.T) {
	check(t, api.RolePrimary, 10,
		row{"k=v", "EXPIRE k 2", ":1", "PEXPIREAT k 2010", "k=v@2010"}, row{"k=v@11", "expire k 1", ":1", "PEXPIREAT k 1010", "k=v@1010"}, row{"k:list", "eXpIrE k 2", ":1", "PEXPIREAT k 2010", "k:list@2010"}, row{"k:hash@2010", "EXPIRE k 2", ":1", "", "="}, row{"", "EXPIRE k 2", ":0", "", "="}, row{"k=v", "EXPIRE K 2", ":0", "", "="}, row{"k=v n=w", "EXPIRE n 2", ":1", "PEXPIREAT n 2010", "k=v n=w@2010"}, row{"k=v", "EXPIRE k", "none", "", "="}, row{"k=v", "EXPIRE k 2 3", "none", "", "="},
		row{"k=v", "EXPIRE k 0", ":1", "DEL k", ""}, row{"k=v@11", "EXPIRE k 0", ":1", "DEL k", ""}, row{"k=v", "EXPIRE k -1", ":1", "DEL k", ""}, row{"", "EXPIRE k 0", ":0", "", "="}, row{"k=v n=w", "EXPIRE k -1099511627776", ":1", "DEL k", "n=w"},
		row{"k=v", "PEXPIRE k 2", ":1", "PEXPIREAT k 12", "k=v@12"}, row{"k=v", "PEXPIRE k 1", ":1", "PEXPIREAT k 11", "k=v@11"}, row{"k:set@11", "pexpire k 1", ":1", "", "="}, row{"k=v@12", "PEXPIRE k 1", ":1", "PEXPIREAT k 11", "k=v@11"}, row{"", "PEXPIRE k 2", ":0", "", "="}, row{"k=v", "PEXPIRE k 0", ":1", "DEL k", ""}, row{"k=v@11", "PEXPIRE k -1", ":1", "DEL k", ""}, row{"k=v", "PEXPIRE k -1099511627776", ":1", "DEL k", ""},
		row{"k=v", "EXPIREAT k 2", ":1", "PEXPIREAT k 2000", "k=v@2000"}, row{"k=v@2000", "expireat k 2", ":1", "", "="}, row{"k=v", "EXPIREAT k 1", ":1", "PEXPIREAT k 1000", "k=v@1000"}, row{"k=v", "EXPIREAT k 0", ":1", "DEL k", ""}, row{"k=v", "EXPIREAT k -1", ":1", "DEL k", ""}, row{"", "EXPIREAT k 2", ":0", "", "="}, row{"k:zset", "EXPIREAT k 1099511627", ":1", "PEXPIREAT k 1099511627000", "k:zset@1099511627000"},
		row{"k=v", "PEXPIREAT k 11", ":1", "PEXPIREAT k 11", "k=v@11"}, row{"k=v", "pexpireat k 10", ":1", "DEL k", ""}, row{"k=v", "PEXPIREAT k 9", ":1", "DEL k", ""}, row{"k=v", "PEXPIREAT k 0", ":1", "DEL k", ""}, row{"k=v", "PEXPIREAT k -5", ":1", "DEL k", ""}, row{"k=v@11", "PEXPIREAT k 11", ":1", "", "="}, row{"k=v@11", "PEXPIREAT k 12", ":1", "PEXPIREAT k 12", "k=v@12"}, row{"k=v", "PEXPIREAT k 1099511627776", ":1", "PEXPIREAT k 1099511627776", "k=v@1099511627776"}, row{"", "PEXPIREAT k 11", ":0", "", "="}, row{"", "PEXPIREAT k 9", ":0", "", "="},
	)
	check(t, api.RolePrimary, 2000, row{"k=v", "EXPIREAT k 2", ":1", "DEL k", ""}, row{"k=v", "EXPIREAT k 3", ":1", "PEXPIREAT k 3000", "k=v@3000"}, row{"k=v", "EXPIRE k 2", ":1", "PEXPIREAT k 4000", "k=v@4000"}, row{"k=v", "EXPIRE k -2", ":1", "DEL k", ""})
	check(t, api.RolePrimary, 0, row{"k=v", "PEXPIRE k 0", ":1", "DEL k", ""}, row{"k=v", "PEXPIRE k 1", ":1", "PEXPIREAT k 1", "k=v@1"}, row{"k=v", "PEXPIREAT k 0", ":1", "DEL k", ""}, row{"k=v", "EXPIREAT k -1", ":1", "DEL k", ""})
}

// Roles but the stream's take out what ends at Now or below; the stream lets it end there.
func TestATimeThatIsNotAhead(t *testing.T) {
	for _, role := range roles {
		for _, x := range []struct {
			args string
			at   string
		}{
			{"PEXPIREAT k 9", "9"}, {"PEXPIREAT k 10", "10"}, {"PEXPIREAT k 0", "0"}, {"PEXPIREAT k -7", "0"}, {"EXPIREAT k 0", "0"}, {"EXPIREAT k -1", "0"}, {"PEXPIRE k 0", "10"}, {"PEXPIRE k -1", "9"}, {"PEXPIRE k -10", "0"}, {"PEXPIRE k -11", "0"}, {"PEXPIRE k -1099511627776", "0"}, {"EXPIRE k 0", "10"}, {"EXPIRE k -1", "0"},
		} {
			for _, before := range []string{"k=v", "k:list@11", "k:hash@77"} {
				if role != api.RoleStream {
					check(t, role, 10, row{before, x.args, ":1", "DEL k", ""})
					continue
				}
				after := load(t, entries(before)).Image()
				at, _ := strconv.Atoi(x.at)
				after[0].At = at
				s := load(t, entries(before))
				r, got := keys.Do(s, api.Call{Role: role, Now: 10, Args: words(x.args)})
				if show(r) != ":1" || !sameTold(got, told("PEXPIREAT k "+x.at)) {
					t.Errorf("%s by the stream = %s, told %s", x.args, show(r), wroteTold(got))
				}
				holds(t, x.args, s, after)
			}
		}
		check(t, role, 10, row{"k=v", "PEXPIREAT k 11", ":1", "PEXPIREAT k 11", "k=v@11"}, row{"k=v", "PEXPIRE k 1", ":1", "PEXPIREAT k 11", "k=v@11"}, row{"k=v@11", "PEXPIRE k 1", ":1", "", "="})
	}
	check(t, api.RoleStream, 10, row{"k=v@9", "PEXPIREAT k 9", ":1", "", "="}, row{"k=v@9", "PEXPIREAT k 10", ":1", "PEXPIREAT k 10", "k=v@10"}, row{"k=v@9", "EXPIRE k 0", ":1", "PEXPIREAT k 10", "k=v@10"}, row{"k=v@0", "EXPIREAT k -4", ":1", "", "="})
	check(t, 0, 10, row{"k=v@9", "PEXPIREAT k 9", ":1", "DEL k", ""}, row{"k=v@9", "PEXPIREAT k 11", ":1", "PEXPIREAT k 11", "k=v@11"})
}

func TestWhatIsNoNumber(t *testing.T) {
	for _, name := range endings {
		for _, n := range []string{"", "+1", "01", "00", "-0", " 1", "1 ", "1.0", "1e3", "0x1", "one", "-", "--1", "1_0", "\u0661", "1\x00", "9223372036854775808", "-9223372036854775809", "99999999999999999999"} {
			for _, k := range []string{"k=v", "k=v@9", "k:list@11", ""} {
				for _, role := range roles {
					c := api.Call{Role: role, Now: 10, Args: []string{name, "k", n}}
					checkCall(t, c, entries(k), reply("-NUMBER", name), nil, "=")
				}
			}
		}
	}
}

// The error of a time beyond MaxTime, or of an n beyond it on either side, tells the command's own name in small letters.
func TestTimesThatMayNotBe(t *testing.T) {
	const far = 1 << 40
	for _, now := range []int{0, 1, 10, 1000, 1776, far - 1, far} {
		for name, x := range map[string]struct {
			from int
			unit int64
		}{"EXPIRE": {now, 1000}, "PEXPIRE": {now, 1}, "EXPIREAT": {0, 1000}, "PEXPIREAT": {0, 1}} {
			last := int64(far-x.from) / x.unit // the last n whose time may be
			for _, n := range []int64{last - 1, last, last + 1, 0, -1, 1, -far, -far - 1, far, far + 1, -far + 1, far - 1, math.MinInt64, math.MaxInt64, math.MinInt64 + 1, math.MaxInt64 - 1, far / 1000, far/1000 + 1, -far / 1000, math.MaxInt64 / 1000, math.MaxInt64/1000 + 1, math.MinInt64/1000 - 1, 18446744073709552} {
				wrong := n < -far || n > last
				for _, called := range []string{name, modelLower(name), mixed(modelLower(name))} {
					for _, k := range []string{"k=v", "k=v@9", ""} {
						for _, role := range roles {
							c := api.Call{Role: role, Now: now, Args: []string{called, "k", strconv.FormatInt(n, 10)}}
							newTrio(t, entries(k)).do(t, c)
							r, got := keys.Do(load(t, entries(k)), c)
							if wrong != (r.Kind == api.RError) || wrong && (r.S != "ERR invalid expire time in '"+modelLower(name)+"' command" || len(got) > 0) {
								t.Fatalf("%s, of %q, = %s, told %s", ask(c), k, show(r), wroteTold(got))
							}
						}
					}
				}
			}
		}
	}
}

// The number is looked at ahead of the time, the time ahead of the key.
func TestTwoErrors(t *testing.T) {
	for _, k := range []string{"k=v", "k=v@9", "k:set@11", ""} {
		check(t, api.RolePrimary, 10, row{k, "EXPIRE k 99999999999999999999", "-NUMBER", "", "="}, row{k, "PEXPIREAT k -99999999999999999999", "-NUMBER", "", "="}, row{k, "EXPIREAT k 9223372036854775807", "-TIME", "", "="}, row{k, "pexpire k -9223372036854775808", "-TIME", "", "="}, row{k, "PeXpIrE k 1099511627767", "-TIME", "", "="})
	}
}

func TestTimeToLive(t *testing.T) {
	for left, seconds := range map[int]string{1: "0", 2: "0", 499: "0", 500: "1", 501: "1", 999: "1", 1000: "1", 1499: "1", 1500: "2", 1501: "2", 2499: "2", 2500: "3", 1999: "2", 60000: "60", 1<<40 - 10: "1099511628"} {
		for _, role := range roles {
			for _, kind := range []string{"k=v", "k:list", "k:zset"} {
				k := kind + "@" + strconv.Itoa(10+left)
				check(t, role, 10, row{k, "TTL k", ":" + seconds, "", "="}, row{k, "PTTL k", ":" + strconv.Itoa(left), "", "="}, row{k, "tTl k", ":" + seconds, "", "="}, row{k, "pttl k", ":" + strconv.Itoa(left), "", "="})
			}
		}
	}
	for _, role := range roles {
		check(t, role, 10, row{"", "TTL k", ":-2", "", "="}, row{"", "PTTL k", ":-2", "", "="}, row{"k=v", "TTL k", ":-1", "", "="}, row{"k:hash", "PTTL k", ":-1", "", "="}, row{"k=v", "TTL n", ":-2", "", "="}, row{"k=v@99", "PTTL K", ":-2", "", "="})
		check(t, role, 0, row{"k=v@1099511627776", "PTTL k", ":1099511627776", "", "="}, row{"k=v@1099511627776", "TTL k", ":1099511628", "", "="})
	}
	for _, at := range []string{"0", "9", "10"} { // 0 at least: nothing is below
		k := "k=v@" + at
		check(t, api.RoleStream, 10, row{k, "TTL k", ":0", "", "="}, row{k, "PTTL k", ":0", "", "="})
		check(t, 7, 10, row{k, "TTL k", ":0", "", "="}, row{k, "PTTL k", ":0", "", "="})
		check(t, api.RoleStream, api.MaxTime, row{k, "TTL k", ":0", "", "="}, row{k, "PTTL k", ":0", "", "="})
		check(t, api.RolePrimary, 10, row{k, "TTL k", ":-2", "DEL k", ""}, row{k, "PTTL k", ":-2", "DEL k", ""})
		check(t, api.RoleReader, 10, row{k, "TTL k", ":-2", "", "="}, row{k, "PTTL k", ":-2", "", "="})
	}
}

func TestPersist(t *testing.T) {
	for _, role := range roles {
		check(t, role, 10,
			row{"k=v@11", "PERSIST k", ":1", "PERSIST k", "k=v"}, row{"k:list@99", "persist k", ":1", "PERSIST k", "k:list"}, row{"k:hash@1099511627776 n=w@11", "pErSiSt k", ":1", "PERSIST k", "k:hash n=w@11"},
			row{"k=v", "PERSIST k", ":0", "", "="}, row{"k:set", "PERSIST k", ":0", "", "="}, row{"", "PERSIST k", ":0", "", "="}, row{"n=v@11", "PERSIST k", ":0", "", "="}, row{"K=v@11", "PERSIST k", ":0", "", "="},
		)
	}
	for _, at := range []string{"0", "9", "10"} {
		k := "k=v@" + at
		check(t, api.RoleStream, 10, row{k, "PERSIST k", ":1", "PERSIST k", "k=v"})
		check(t, -3, 10, row{k, "PERSIST k", ":1", "PERSIST k", "k=v"})
		check(t, api.RolePrimary, 10, row{k, "PERSIST k", ":0", "DEL k", ""})
		check(t, api.RoleReader, 10, row{k, "PERSIST k", ":0", "", "="})
	}
}

// isThere: does a call of a role at a time see the key k? Asked by each call that sees keys, each on a space of its own.
func isThere(t *testing.T, before []api.Entry, role api.Role, now int) bool {
	t.Helper()
	do := func(args ...string) string {
		r, _ := keys.Do(load(t, before), api.Call{Role: role, Now: now, Args: args})
		return show(r)
	}
	_, there, _ := load(t, before).Get(api.Call{Role: role, Now: now}, "k")
	for asked, yes := range map[string]bool{
		"EXISTS": do("EXISTS", "k") == ":1", "TYPE": do("TYPE", "k") != "+none", "TTL": do("TTL", "k") != ":-2", "PTTL": do("PTTL", "k") != ":-2", "KEYS": do("KEYS", "k") == "[$k]", "RANDOMKEY": do("RANDOMKEY") == "$k", "RENAME": do("RENAME", "k", "k") == "+OK", "RENAMENX": do("RENAMENX", "k", "n") == ":1", "DEL": do("DEL", "k") == ":1", "EXPIRE": do("PEXPIRE", "k", "0") == ":1",
	} {
		if yes != there {
			t.Fatalf("%s by role %d at %d of%s tells %t", asked, role, now, wrote(before), yes)
		}
	}
	return there
}

// P17.3: what a key's end is, it is seen ahead of it, and by no call of a primary's or a replica's client at it or behind it; PERSIST takes the end away.
func TestEnds(t *testing.T) {
	t.Parallel()
	for _, now := range []int{0, 10, 5000} {
		for _, n := range []int{1, 2, 7, 400, 1 << 20} {
			for i, at := range []int{now + n*1000, now + n, n * 1000, n} {
				for _, kind := range []string{"k=v", "k:zset", "k:list@6000", "k:hash@1099511627776"} {
					s := load(t, entries(kind))
					_, told := keys.Do(s, api.Call{Role: api.RolePrimary, Now: now, Args: []string{endings[i], "k", strconv.Itoa(n)}})
					if at <= now {
						holds(t, endings[i], s, nil)
						continue
					}
					l := s.Image()
					if len(l) != 1 || l[0].At != at || len(told) > 1 {
						t.Fatalf("%s k %d at %d leaves%s, told %s", endings[i], n, now, wrote(l), wroteTold(told))
					}
					for _, role := range roles {
						byClock := role == api.RolePrimary || role == api.RoleReader
						for _, later := range []int{now, at - 1, at, at + 1, at + 5000} {
							if isThere(t, l, role, later) != (later < at || !byClock) {
								t.Fatalf("%s k %d at %d: seen by role %d at %d: %t", endings[i], n, now, role, later, byClock)
							}
						}
						kept := load(t, l)
						if r, _ := keys.Do(kept, api.Call{Role: role, Now: at - 1, Args: []string{"PERSIST", "k"}}); show(r) != ":1" || !isThere(t, kept.Image(), role, api.MaxTime) {
							t.Fatalf("behind PERSIST by role %d it has%s", role, wrote(kept.Image()))
						}
					}
				}
			}
		}
	}
}
