package weight_test

import (
	"math"
	"strconv"
	"strings"
	"testing"

	"lectern/api"
	"lectern/weight"
)

func wantRead(t testing.TB, s string, e api.Element, long int, err api.Errno) {
	t.Helper()
	got, n, errno := weight.Read(s)
	if got != e || n != long || errno != err {
		t.Errorf("Read of %s: %v, %d, error %d; want %v, %d, error %d", strconv.QuoteToASCII(s), got, n, errno, e, long, err)
	}
}

// forms are elements with four digits a weight, and their texts.
func forms() map[string]api.Element {
	return map[string]api.Element{
		"[.0000.0000.0000]": {},
		"[.1C47.0020.0002]": elem(0x1c47, 0x20, 2),
		"[*0201.0020.0002]": varied(0x201, 0x20, 2),
		"[.0000.0024.0002]": elem(0, 0x24, 2),
		"[.0000.0000.001F]": elem(0, 0, 0x1f),
		"[.FAFF.01FF.003F]": elem(0xfaff, 0x1ff, 0x3f),
		"[*FAFF.01FF.003F]": varied(0xfaff, 0x1ff, 0x3f),
		"[.0001.0001.0001]": elem(1, 1, 1),
		"[.1234.0156.0038]": elem(0x1234, 0x156, 0x38),
		"[.789A.00BC.002D]": elem(0x789a, 0xbc, 0x2d),
		"[.CDEF.01AB.003A]": elem(0xcdef, 0x1ab, 0x3a),
		"[*E00D.000F.000B]": varied(0xe00d, 0xf, 0xb),
	}
}

// strange are likewise, but such as may not be.
func strange() map[string]api.Element {
	return map[string]api.Element{
		"[.FFFF.FFFF.FFFF]": elem(0xffff, 0xffff, 0xffff),
		"[*FFFF.FFFF.FFFF]": varied(0xffff, 0xffff, 0xffff),
		"[*0000.0000.0000]": varied(0, 0, 0),
		"[*0000.0020.0002]": varied(0, 0x20, 2),
		"[.FB00.0020.0002]": elem(0xfb00, 0x20, 2),
		"[.FB40.0020.0002]": elem(0xfb40, 0x20, 2),
		"[.CE00.0000.0000]": elem(0xce00, 0, 0),
		"[.0001.0000.0001]": elem(1, 0, 1),
		"[.0001.0001.0000]": elem(1, 1, 0),
		"[.0000.0001.0000]": elem(0, 1, 0),
		"[.0001.0200.0001]": elem(1, 0x200, 1),
		"[.0001.0001.0040]": elem(1, 1, 0x40),
		"[.1234.5678.9ABC]": elem(0x1234, 0x5678, 0x9abc),
		"[.0000.DEF0.0000]": elem(0, 0xdef0, 0),
	}
}

// P7.6

func TestShow(t *testing.T) {
	for s, e := range forms() {
		want(t, "Show", weight.Show(e), s)
	}
	for s, e := range strange() {
		want(t, "Show", weight.Show(e), s)
	}
}

func TestShowOfWeightsWithoutDigits(t *testing.T) {
	for _, w := range []int{-1, -0x10000, math.MinInt, math.MinInt32, 0x10000, 0x10001, 1 << 20, 1 << 32, math.MaxInt32, math.MaxInt} {
		for _, e := range []api.Element{elem(w, 1, 1), elem(1, w, 1), elem(1, 1, w), varied(w, 0, 0), varied(0, w, 0), varied(0, 0, w), elem(w, w, w)} {
			want(t, "Show", weight.Show(e), "")
		}
	}
}

func TestRead(t *testing.T) {
	for s, e := range forms() {
		for _, behind := range []string{"", "]", "[", " ", "0", "[.0000.0000.0000]", "\x00", "\xff", "é", strings.Repeat("x", 1000)} {
			wantRead(t, s+behind, e, 17, api.OK)
		}
	}
}

func TestReadOfWeightsThatMayNotBe(t *testing.T) {
	for s := range strange() {
		wantRead(t, s, api.Element{}, 0, api.ErrWeight)
		wantRead(t, s+"[.0001.0001.0001]", api.Element{}, 0, api.ErrWeight)
	}
}

func TestReadOfNoForm(t *testing.T) {
	for _, s := range []string{
		"[", "]", "x", "[]", "[.]", "[...]", "[.0001.0001.0001", ".0001.0001.0001]", "0001.0001.0001",
		// something ahead, too few digits, too many
		" [.0001.0001.0001]", "[ .0001.0001.0001]", "[.1.1.1]", "[.001.0001.0001]", "[.0001.001.0001]", "[.0001.0001.001]", "[.00001.0001.0001]",
		"[.0001.00001.0001]", "[.0001.0001.00001]", "[.0001.0001.0001.0001]", "[.0001.0001]", "[.001.00001.0001]", "[.0001.001.00001]", "[.00001.001.0001]",
		// marks
		"[00001.0001.0001]", "[,0001.0001.0001]", "[+0001.0001.0001]", "[*0001*0001.0001]", "[.0001*0001.0001]", "[.0001.0001*0001]", "[*0001*0001*0001]",
		"[.0001 0001.0001]", "[.0001.0001 0001]", "[.0001.0001.0001)", "(.0001.0001.0001]", "{.0001.0001.0001}", "[.0001.0001.0001[", "].0001.0001.0001[",
		// no digits
		"[.1c47.0020.0002]", "[.1C47.0020.000a]", "[.1C47.00bc.0002]", "[.1C4G.0020.0002]", "[.1C47.002G.0002]", "[.1C47.0020.000G]", "[.G000.0020.0002]",
		"[.1C4@.0020.0002]", "[.1C4/.0020.0002]", "[.1C4:.0020.0002]", "[.1C4`.0020.0002]", "[. 1C4.0020.0002]", "[.1C4 .0020.0002]", "[.+1C4.0020.0002]",
		"[.-1C4.0020.0002]", "[.0x1C.0020.0002]", "[.1_C4.0020.0002]", "[.1C47.+020.0002]", "[.1C47.0020.-002]", "[.\x001C4.0020.0002]", "[.1C47.0020.\xff002]",
		"[.1C\xb1.0020.0002]", "[.1é7.0020.0002]", "[.1é.0020.0002]", "[.\x80\x80\x80\x80.0020.0002]", "[.\U000100310.0020.0002]", "[.０.0020.0002]", "[.٣٣.0020.0002]",
		// also where the weights may not be
		"[*000g.0000.0000]", "[.FFFF.FFFF.FFFF", "[.FFFF.FFFF.FFFF)", "[.ffff.FFFF.FFFF]",
	} {
		wantRead(t, s, api.Element{}, 0, api.ErrNone)
		wantRead(t, s+"[.0001.0001.0001]", api.Element{}, 0, api.ErrNone)
	}
	for s := range forms() {
		for long := range s {
			wantRead(t, s[:long], api.Element{}, 0, api.ErrNone)
		}
	}
}
