package exec_test

import (
	"strings"
	"testing"

	"millpond/api"
	"millpond/exec"
)

// P18.1: PING and ECHO, by each role, in any letters, on an empty store and on one with what is over: nothing is told, nothing changes.
func TestPingAndEcho(t *testing.T) {
	const wrongPing, wrongEcho = "-ERR wrong number of arguments for 'ping' command", "-ERR wrong number of arguments for 'echo' command"
	strange := "\x00\r\n\x80\xff"
	for _, x := range []struct {
		args []string
		want string
	}{
		{[]string{"ping"}, "+PONG"},
		{[]string{"ping", ""}, "$"},
		{[]string{"ping", "x"}, "$x"},
		{[]string{"ping", strange}, "$" + strange},
		{[]string{"ping", "PING"}, "$PING"},
		{[]string{"ping", most}, "$" + most},
		{[]string{"ping", over}, tooBig},
		{[]string{"ping", "", ""}, wrongPing},
		{[]string{"ping", "x", "y"}, wrongPing},
		{[]string{"ping", "x", "y", "z"}, wrongPing},
		{[]string{"ping", "x", over}, tooBig},
		{filledUp(1024, "x", "ping"), wrongPing},
		{filledUp(1025, "x", "ping"), tooBig},
		{[]string{"echo"}, wrongEcho},
		{[]string{"echo", ""}, "$"},
		{[]string{"echo", "x"}, "$x"},
		{[]string{"echo", strange}, "$" + strange},
		{[]string{"echo", most}, "$" + most},
		{[]string{"echo", over}, tooBig},
		{[]string{"echo", "x", "y"}, wrongEcho},
		{[]string{"echo", "x", over}, wrongEcho},
		{filledUp(1025, "x", "echo"), wrongEcho},
		{[]string{"pingg"}, "-ERR unknown command 'PINGG'"},
		{[]string{"pong"}, "-ERR unknown command 'PONG'"},
	} {
		for i, args := range inCases(x.args) {
			want := x.want
			if strings.Contains(want, "unknown") && i != 1 {
				want = strings.ReplaceAll(strings.ReplaceAll(want, "PINGG", args[0]), "PONG", args[0])
			}
			for _, role := range roles {
				answers(t, load(t, nil), by(role, args...), want)
				answers(t, load(t, entries("x=v@3 k:list")), by(role, args...), want)
			}
		}
	}
}

// P18.1: the other commands of the server answer nothing: the node does these. Of too few arguments, too many, and too big a request they tell errors as all do.
func TestOtherCommandsOfTheServer(t *testing.T) {
	for name, n := range ofServer {
		if name == "ping" || name == "echo" {
			continue
		}
		least, greatest := n[0], n[1]
		for _, count := range []int{0, 1, 2, 3, 4, 1022, 1023, 1024, 1025} {
			for _, text := range []string{"", "1", "no", "\r\n"} {
				for _, args := range inCases(filledUp(count+1, text, name)) {
					want := "none"
					switch {
					case count < least || count > greatest && greatest < 1000:
						want = "-ERR wrong number of arguments for '" + name + "' command"
					case count >= 1024:
						want = tooBig
					}
					for _, role := range roles {
						answers(t, load(t, entries("1=v@3 no:list@10")), by(role, args...), want)
					}
				}
			}
		}
		if least == 0 {
			continue
		}
		for _, text := range []string{most, over} {
			args := append(filledUp(least, "1", name), text)
			want := map[string]string{most: "none", over: tooBig}[text]
			answers(t, load(t, nil), by(api.RolePrimary, args...), want)
			answers(t, load(t, nil), by(api.RolePrimary, append(args, "x")...), "-ERR wrong number of arguments for '"+name+"' command")
		}
	}
	for _, text := range []string{"wait 1 0", "WAIT -1 x", "replicaof no one", "REPLICAOF 3 0", "replconf ack 5", "REPLCONF", "psync ? -1", "PSYNC 1 1", "role", "ROLE", "quit", "Quit"} {
		for _, role := range roles {
			answers(t, load(t, entries("one=v@3")), by(role, words(text)...), "none")
		}
	}
}

// Of a space that nobody made nothing is answered to the server's commands, either.
func TestServerWithoutSpace(t *testing.T) {
	for name := range ofServer {
		if r, told := exec.Do(nil, by(api.RolePrimary, name, "x")); show(r) != "none" || len(told) > 0 {
			t.Errorf("%s without a space = %s, told %s", name, show(r), wroteTold(told))
		}
	}
}
