package fold_test

import (
	"testing"

	"abridger/fold"
)

func TestLower(t *testing.T) {
	for s, want := range map[string]string{"": "", "uRL-9Z_": "url-9z_", "É\u212aſ\xff": "É\u212aſ\xff", "@[": "@[", "AZaz": "azaz"} {
		if got := fold.Lower(s); got != want {
			t.Errorf("Lower(%q) = %q", s, got)
		}
	}
}
