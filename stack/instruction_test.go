package stack_test

import (
	"strconv"
	"strings"
	"testing"

	"bluebell/api"
)

func TestPushes(t *testing.T) {
	checkAllTops(t, `
		 =>
		num 0, num 5, num -1 => 0 5 -1
		num 32767, num -32768 => 32767 -32768
		num 5, num 6, local 2, local 3, local 5 => 5 6 5 6 6
		num 5, putl 2 =>
		num 5, num 6, putl 2 => 6
		num 5, num 6, putl 3 => 5
		num 1, num 2, num 3, num 4, putl 3 => 1 4 3
		addrl 2, addrl 3, addrl 4000 => 8002 8003 12000
		num 5, addrl 2, load => 5 5
		global 0, global 1, global 2, global 11, global 12, global 199 => 0 32001 32502 32511 0 0
		num 7, putg 199, num 8, putg 0, global 199, global 0, global 198 => 7 8 0
		addrg 0, addrg 199, addrg 11, load => 0 199 32511
		static 0, static 1 => 1 -2
		addrs 0, addrs 1, addrs 2 => 200 201 204
		num 9, puts 1, num 8, puts 2, static 0, static 1, static 2, addrs 1, num 2, bin add, load => 1 9 8 3
		proc 1, proc 2 => 32001 32002
		num 5, stack 2, stack 4 => 5 0
		num 5, stack 2004, stack 3 => 5
	`)
	for _, x := range []struct {
		bits int
		want string
	}{
		{16, "num 32768, num -32769, num 65536, num 2147483647, num -2147483648 => -32768 32767 0 -1 0"},
		{24, "num 32768, num 8388608, num -8388609, num 2147483647, num -2147483648 => 32768 -8388608 8388607 -1 0"},
		{32, "num 32768, num 2147483647, num -2147483648 => 32768 2147483647 -2147483648"},
	} {
		for _, big := range []bool{false, true} {
			checkTops(t, api.Form{Bits: x.bits, Big: big}, x.want)
		}
	}
}

func TestLoadsAndStores(t *testing.T) {
	checkAllTops(t, `
		num 0, load, num 1, load, num 31999, load => 0 32001 0
		num 7, num 31999, store, num 31999, load, num 31998, load => 7 0
		num 7, num 0, store, global 0, num 0, load => 7 7
		num 7, num 50, store, global 50, global 7 => 7 32507
		num 5, num 6, addrl 2, store => 6
		num 5, num 6, addrl 3, store => 5
		num 5, num -1, addrl 2, store, num 9 => -1 9
		num 7, num 16000, store, num 16000, load => 7
		num 5, num 50, num 50, store => 5
	`)
	checkFaults(t, api.ErrAddress,
		"enter 1, num -1, load, back", "enter 1, num 32000, load, back", "enter 1, num -32768, load, back", "enter 1, proc 1, load, back",
		"enter 1, num 1, num -1, store, back", "enter 1, num 1, num 32000, store, back", "enter 1, num 1, num -32768, store, back",
		"enter 1, num 32000, num 1, num 32000, store, back",
	)
}

// bytesOf returns what a test says of bytes by words of n bytes: N- is n less, and so on.
func bytesOf(n int, lines string) string {
	r := strings.NewReplacer("3N", strconv.Itoa(3*n), "2N", strconv.Itoa(2*n), "N-1", strconv.Itoa(n-1), "-N-1", strconv.Itoa(-n-1), "-N+1", strconv.Itoa(-n+1), "-N", strconv.Itoa(-n), "N+1", strconv.Itoa(n+1), "N", strconv.Itoa(n))
	return r.Replace(lines)
}

func TestBytes(t *testing.T) {
	for _, f := range forms() {
		n := f.Bits / 8
		checkTops(t, f, bytesOf(n, `
			num 7, addrg 50, num 0, putb, addrg 50, num 0, getb, addrg 50, num 1, getb => 7 0
			num 7, addrg 50, num 0, putb, num 8, addrg 50, num 1, putb, addrg 50, num 0, getb, addrg 50, num 1, getb, addrg 50, num 2, getb => 7 8 0
			num 255, addrg 50, num N-1, putb, addrg 50, num N-1, getb, addrg 50, num N, getb, addrg 51, num -1, getb, addrg 52, num -N-1, getb => 255 0 255 255
			num 9, addrg 50, num N, putb, addrg 51, num 0, getb, global 50, addrg 51, num -N, getb => 9 0 0
			num 9, addrg 50, num -1, putb, addrg 49, num N-1, getb, global 50, addrg 50, num -1, getb => 9 0 9
			num 9, addrg 50, num -N, putb, addrg 49, num 0, getb, addrg 48, num N, getb => 9 9
			num 9, addrg 50, num -N+1, putb, addrg 49, num 1, getb => 9
			num 9, addrg 50, num -N-1, putb, addrg 48, num N-1, getb => 9
			num 9, addrg 50, num 3N, putb, addrg 53, num 0, getb, addrg 50, num 2N, getb => 9 0
			num 5, num 6, num 7, addrg 50, num 0, putb => 5 6
			num 5, addrs 2, num 0, getb, addrs 2, num 1, getb, addrs 2, num 3, getb => 5 3 97 99
			num 256, addrg 50, num 0, putb, num -1, addrg 50, num 1, putb, num 511, addrg 50, num N, putb, addrg 50, num 0, getb, addrg 50, num 1, getb, addrg 50, num N, getb => 0 255 255
			num 1, num 31999, num N-1, putb, num 31999, num N-1, getb, num 32000, num -1, getb => 1 1
			num 1, num 0, num 0, putb, num 0, num 0, getb, num 1, num -N, getb, num -1, num N, getb => 1 1 1
			num -1, putg 50, num 0, addrg 50, num 1, putb, addrg 50, num 0, getb, addrg 50, num 1, getb => 255 0
		`))
		for _, src := range []string{"num 31999, num N", "num 32000, num 0", "num 32000, num N-1", "num 0, num -1", "num 1, num -N-1", "num -1, num 0", "num -1, num N-1", "num -32768, num -32768", "num 32767, num 32767"} {
			checkFaultsBy(t, f, api.ErrAddress, bytesOf(n, "enter 1, "+src+", getb, back"), bytesOf(n, "enter 1, num 1, "+src+", putb, back"))
		}
	}
	checkTops(t, api.Form{Bits: 16, Big: true}, "num 1, addrg 50, num 0, putb, num 2, addrg 50, num 1, putb, global 50, num 128, addrg 51, num 0, putb, global 51 => 258 -32768")
	checkTops(t, api.Form{Bits: 16}, "num 1, addrg 50, num 0, putb, num 2, addrg 50, num 1, putb, global 50, num 128, addrg 51, num 0, putb, global 51 => 513 128")
	checkTops(t, api.Form{Bits: 24, Big: true}, "num 1, addrg 50, num 0, putb, num 2, addrg 50, num 1, putb, global 50 => 66048")
	checkTops(t, api.Form{Bits: 24}, "num 1, addrg 50, num 0, putb, num 2, addrg 50, num 2, putb, global 50 => 131073")
	checkTops(t, api.Form{Bits: 32, Big: true}, "num 1, addrg 50, num 0, putb, num 2, addrg 50, num 3, putb, global 50, num 255, addrg 51, num 0, putb, global 51 => 16777218 -16777216")
	checkTops(t, api.Form{Bits: 32}, "num 1, addrg 50, num 0, putb, num 2, addrg 50, num 3, putb, global 50 => 33554433")
}

func TestOperators(t *testing.T) {
	checkAllTops(t, `
		num 1, num 7, num 2, bin mul => 1 14
		num 1, num -7, num 2, bin div => 1 -3
		num 1, num -7, num 2, bin rem => 1 -1
		num 7, num 2, bin add => 9
		num 7, num 2, bin sub => 5
		num 7, num 2, bin shl => 28
		num 7, num 1, bin shr => 3
		num 6, num 3, bin and => 2
		num 6, num 3, bin or => 7
		num 6, num 3, bin xor => 5
		num 6, num 3, bin eqv => -6
		num 7, num 2, bin eq, num 2, num 2, bin eq => 0 -1
		num 7, num 2, bin ne, num 2, num 2, bin ne => -1 0
		num 7, num 2, bin lt, num 2, num 7, bin lt => 0 -1
		num 7, num 2, bin le, num 2, num 2, bin le => 0 -1
		num 7, num 2, bin gt, num 2, num 7, bin gt => -1 0
		num 1, num 2, bin ge, num 2, num 2, bin ge => 0 -1
		num 3, num 7, un neg => 3 -7
		num 3, num 7, un not => 3 -8
	`)
	for _, big := range []bool{false, true} {
		checkTops(t, api.Form{Bits: 16, Big: big}, "num 32767, num 1, bin add, num -32768, un neg, num -1, num 15, bin shr, num 1, num 16, bin shl => -32768 -32768 1 0")
		checkTops(t, api.Form{Bits: 24, Big: big}, "num 32767, num 1, bin add, num 8388607, num 1, bin add, num -1, num 15, bin shr, num 1, num 16, bin shl => 32768 -8388608 511 65536")
		checkTops(t, api.Form{Bits: 32, Big: big}, "num 32767, num 1, bin add, num 2147483647, num 1, bin add, num -1, num 15, bin shr, num 1, num 16, bin shl => 32768 -2147483648 131071 65536")
	}
	checkFaults(t, api.ErrZero, "enter 1, num 7, num 0, bin div, back", "enter 1, num 7, num 0, bin rem, back", "enter 1, num 0, num 0, bin div, back")
	for _, f := range forms() {
		checkFaultsBy(t, f, api.ErrZero, "enter 1, num 7, num 65536, num 16, bin shl, bin div, back") // 0 when it is normed
	}
}

func TestJumps(t *testing.T) {
	checkAllTops(t, `
		num 1, jump 1, num 2, label 1, stack 3 => 1
		num 0, true 1, num 5, jump 2, label 1, stack 2, num 6, label 2, stack 3 => 5
		num 9, true 1, num 5, jump 2, label 1, stack 2, num 6, label 2, stack 3 => 6
		num -1, true 1, num 5, jump 2, label 1, stack 2, num 6, label 2, stack 3 => 6
		num 0, false 1, num 5, jump 2, label 1, stack 2, num 6, label 2, stack 3 => 6
		num -9, false 1, num 5, jump 2, label 1, stack 2, num 6, label 2, stack 3 => 5
		num 1, jump 2, label 1, label 2, label 3, stack 3 => 1
		num 3, jump 2, label 1, stack 3, num 1, bin sub, label 2, stack 3, local 2, true 1 => 0
		num 1, num 2, jump 1, label 1, stack 4 => 1 2
		num 1, num 2, jump 1, label 1, stack 2, stack 5 => 1 2 0
		num 1, num 8, result 1, label 1, take 3 => 1 8
		num 1, num 8, result 1, label 1, take 2 => 8
		num 1, num 8, result 1, label 1, take 5 => 1 8 0 8
		num 8, result 2, label 1, label 2, take 2 => 8
		num 8, result 1, label 2, take 2, num 9, jump 3, label 1, take 2, result 2, label 3, stack 4 => 8 9
	`)
}

func TestSwitches(t *testing.T) {
	end := ", label 1, stack 2, num 10, jump 9, label 2, stack 2, num 20, jump 9, label 3, stack 2, num 30, jump 9, label 9, stack 3 => "
	for _, x := range [][2]string{
		{"num 5, switch 1 0", "10"},
		{"num 5, switch 1 2, case 5 2, case 6 3", "20"},
		{"num 6, switch 1 2, case 5 2, case 6 3", "30"},
		{"num 7, switch 1 2, case 5 2, case 6 3", "10"},
		{"num 5, switch 1 3, case 5 2, case 5 3, case 5 1", "20"},
		{"num 5, switch 2 3, case 4 2, case 5 3, case 5 1", "30"},
		{"num 0, switch 1 1, case 0 3", "30"},
		{"num -1, switch 1 2, case 1 2, case -1 3", "30"},
		{"num 4, switch 1 2, case 4 2, case 4 3", "20"},
		{"num 99, switch 3 1, case 4 2", "30"},
	} {
		checkAllTops(t, x[0]+end+x[1])
	}
	// Constants are normed: the first one that is equal then.
	for _, x := range []struct {
		src              string
		by16, by24, by32 string
	}{
		{"num 5, switch 1 3, case 16777221 2, case 65541 3, case 5 1", "20", "20", "10"},
		{"num 5, switch 1 3, case 65541 3, case 16777221 2, case 5 1", "30", "20", "10"},
		{"num -32768, switch 1 2, case 32768 2, case -32768 3", "20", "30", "30"},
		{"num 65541, switch 1 2, case 5 2, case 65541 3", "20", "30", "30"},
	} {
		for _, f := range forms() {
			want := map[int]string{16: x.by16, 24: x.by24, 32: x.by32}[f.Bits]
			checkTops(t, f, x.src+end+want)
		}
	}
}
