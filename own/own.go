// Package own: copies of what was handed in: it may be pieces of longer texts, which would be kept with them.
package own

import (
	"strings"

	"conclave/api"
)

// Command is a command with texts of its own.
func Command(c api.Command) api.Command {
	c.Key, c.Value, c.Old = strings.Clone(c.Key), strings.Clone(c.Value), strings.Clone(c.Old)
	return c
}
