package sha_test

import (
	"crypto/sha256"
	"encoding/hex"
	"strings"
	"testing"

	"redoubt/sha"
)

func TestExamples(t *testing.T) { // P3.1
	for s, want := range map[string]string{
		"":    "e3b0c44298fc1c149afbf4c8996fb92427ae41e4649b934ca495991b7852b855",
		"abc": "ba7816bf8f01cfea414140de5dae2223b00361a396177a9cb410ff61f20015ad",
		"abcdbcdecdefdefgefghfghighijhijkijkljklmklmnlmnomnopnopq": "248d6a61d20638b8e5c026930c3e6039a33ce45964ff2167f6ecedd419db06c1",
	} {
		if sha.Name(sha.Sum(s)) != want {
			t.Fatal(s)
		}
	}
	if sha.Sum() != sha.Sum("") || sha.Sum("a", "bc") != sha.Sum("abc") {
		t.Fatal("of none, and of two")
	}
}

func TestEachLength(t *testing.T) { // P3.1
	all := ""
	for i := range 300 {
		want := sha256.Sum256([]byte(all))
		if sha.Sum(all) != string(want[:]) {
			t.Fatal(i)
		}
		all += string([]byte{byte(i*7 + i/3)})
	}
	long := strings.Repeat(all, 1000)
	want := sha256.Sum256([]byte(long))
	if sha.Sum(long) != string(want[:]) {
		t.Fatal("long")
	}
}

func TestNames(t *testing.T) { // P3.2
	all := ""
	for b := range 256 {
		all += string([]byte{byte(b)})
	}
	if sha.Name(all) != hex.EncodeToString([]byte(all)) || sha.Name("") != "" || sha.Name("\x0a\xf0") != "0af0" {
		t.Fatal(sha.Name(all))
	}
	if h, ok := sha.Hash(sha.Name(all)); h != all || !ok {
		t.Fatal(h, ok)
	}
	if h, ok := sha.Hash(""); h != "" || !ok {
		t.Fatal("of no bytes")
	}
	if h, ok := sha.Hash("00ff"); h != "\x00\xff" || !ok {
		t.Fatalf("%x", h)
	}
	for _, bad := range []string{"0", "0A", "A0", "0g", "g0", "00 ", " 00", "00f", "/0", "0/", ":0", "0:", "`0", "0`", "00fF", "\x00\x00", "0x", "ab\xff\xff"} {
		if h, ok := sha.Hash(bad); h != "" || ok {
			t.Fatalf("%q: %x", bad, h)
		}
	}
}

func TestParts(t *testing.T) { // P3.3
	s := strings.Repeat("how bytes are parted ", 10)
	want := sha.Sum(s)
	for i := range len(s) {
		if sha.Sum(s[:i], s[i:]) != want || sha.Sum("", s[:i], "", s[i:]) != want {
			t.Fatal(i)
		}
	}
	if sha.Sum(strings.Split(s, "")...) != want {
		t.Fatal("byte by byte")
	}
	if h, ok := sha.Hash(sha.Name(want)); h != want || !ok || len(want) != 32 {
		t.Fatal("there and back")
	}
}
