package api

import "testing"

func TestErrors(t *testing.T) {
	for want, e := range []Errno{OK, ErrForm, ErrMore, ErrLong, ErrChannel, ErrClosed, ErrFrame, ErrDead} {
		if int(e) != want {
			t.Errorf("the error %d is %d", want, e)
		}
	}
}

func TestLimits(t *testing.T) {
	got := [...]int{MaxText, MaxChannels, MaxFrame, MaxWaiting, MaxWritten, Delay}
	if want := [...]int{5000, 8, 20, 200, 1500, 3}; got != want {
		t.Errorf("the limits are %v, want %v", got, want)
	}
}
