package exec

import (
	"strings"

	"millpond/api"
	"millpond/work"
)

// serve does a command of the server that needs no node; the reply of another one is zero, as the node does it.
func serve(name string, args []string) api.Reply {
	switch name {
	case "ping":
		if len(args) == 0 {
			return work.Simple("PONG")
		}
		if len(args) > 1 {
			return work.Error("ERR wrong number of arguments for 'ping' command")
		}
		fallthrough
	case "echo":
		return work.Bulk(strings.Clone(args[0]), true)
	}
	return api.Reply{}
}
