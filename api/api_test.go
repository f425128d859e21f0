package api_test

import (
	"testing"

	"conclave/api"
)

// What is told in bytes and in answers hangs on these numbers.
func TestNumbersOfTheNames(t *testing.T) {
	for i, e := range []api.Errno{api.OK, api.ErrConfig, api.ErrArg, api.ErrNode, api.ErrDown, api.ErrLeader, api.ErrFull, api.ErrNone, api.ErrText, api.ErrRev, api.ErrBytes} {
		if int(e) != i {
			t.Errorf("the error told as %d is %d", i, e)
		}
	}
	for i, n := range []int{api.Nothing, api.Put, api.Delete, api.Swap, api.Floor} {
		if n != i {
			t.Errorf("the command's kind told as %d is %d", i, n)
		}
	}
	for i, n := range []int{api.Base, api.Hard, api.Item} {
		if n != i+1 {
			t.Errorf("the record's kind told as %d is %d", i+1, n)
		}
	}
}
