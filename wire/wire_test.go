package wire_test

import (
	"slices"
	"testing"
	"unsafe"

	"shard/api"
	"shard/wire"
)

func docRole(a int) api.Role {
	switch {
	case a <= 15:
		return api.RoleHost
	case a <= 31:
		return api.RoleClient
	case a == 32:
		return api.RoleAdmin
	}
	return api.RoleOutside
}

func TestP3_1RoleOfEachAddress(t *testing.T) {
	for a := range 256 {
		if got := wire.RoleOf(api.Addr(a)); got != docRole(a) {
			t.Errorf("RoleOf(%d) = %d", a, got)
		}
	}
}

func TestP3_2AllowedOfAllAddressesAndKinds(t *testing.T) {
	type ends struct{ from, to api.Role }
	table := map[ends][]api.Kind{
		{api.RoleClient, api.RoleHost}: {api.KGet, api.KSet, api.KDelete, api.KCas, api.KScan},
		{api.RoleHost, api.RoleClient}: {api.KReply, api.KRedirect},
		{api.RoleAdmin, api.RoleHost}:  {api.KShard},
		{api.RoleHost, api.RoleAdmin}:  {api.KDone},
		{api.RoleHost, api.RoleHost}:   {api.KData, api.KAck},
	}
	for from := range 256 {
		for to := range 256 {
			kinds := table[ends{docRole(from), docRole(to)}]
			if from == to {
				kinds = nil
			}
			for kind := range 256 {
				want := slices.Contains(kinds, api.Kind(kind))
				if got := wire.Allowed(api.Addr(from), api.Addr(to), api.Kind(kind)); got != want {
					t.Fatalf("Allowed(%d, %d, %d) = %v", from, to, kind, got)
				}
			}
		}
	}
}

func TestP3_3KindNameOfEachNumber(t *testing.T) {
	for kind := range 256 {
		want := ""
		if kind < len(docWords) {
			want = docWords[kind]
		}
		if got := wire.KindName(api.Kind(kind)); got != want {
			t.Errorf("KindName(%d) = %q", kind, got)
		}
	}
}

func TestP3_11WordsAreNewMemory(t *testing.T) {
	for kind := api.KGet; kind <= api.KDelegate; kind++ {
		a, b := wire.KindName(kind), wire.KindName(kind)
		if unsafe.StringData(a) == unsafe.StringData(b) {
			t.Errorf("KindName(%d): two answers are one memory", kind)
		}
	}
}
