import Derived.Shelf.LaysM
import Derived.Shelf.Strconv.AppendInt10
import Derived.Test.YtffcnonhhfhlhaaDoorProg
import Derived.Test.YtffcnonhhfhlhaaDoorTxB
namespace Go.Proofs
open Go.Shelf
def Tryd.laysM288_ren : Go.Shelf.Ren := ⟨fun | 288 => 89 | 283 => 107 | 284 => 108 | 285 => 109 | 286 => 110 | 129 => 99 | 317 => 121 | 318 => 122 | 319 => 123 | 320 => 124 | 337 => 131 | 338 => 132 | n => n, fun | 37 => 100 | 53 => 23 | 3 => 3 | 4 => 4 | 9 => 9 | 171 => 163 | 0 => 0 | 173 => 165 | 212 => 175 | 51 => 153 | 5 => 5 | 20 => 20 | 213 => 176 | 46 => 131 | 232 => 188 | 233 => 189 | n => n, fun | 17 => 0 | 18 => 4 | 19 => 5 | n => n⟩
theorem Tryd.laysM288 : Go.Proofs.LaysM.n288 Tryd.prog Tryd.laysM288_ren := {
  mixed := by kernel_rfl
  f129 := Tryd.func99.trans (congrArg some (by kernel_rfl))
  f283 := Tryd.func107.trans (congrArg some (by kernel_rfl))
  f284 := Tryd.func108.trans (congrArg some (by kernel_rfl))
  f285 := Tryd.func109.trans (congrArg some (by kernel_rfl))
  f286 := Tryd.func110.trans (congrArg some (by kernel_rfl))
  f288 := Tryd.func89.trans (congrArg some (by kernel_rfl))
  f317 := Tryd.func121.trans (congrArg some (by kernel_rfl))
  f318 := Tryd.func122.trans (congrArg some (by kernel_rfl))
  f319 := Tryd.func123.trans (congrArg some (by kernel_rfl))
  f320 := Tryd.func124.trans (congrArg some (by kernel_rfl))
  f337 := Tryd.func131.trans (congrArg some (by kernel_rfl))
  f338 := Tryd.func132.trans (congrArg some (by kernel_rfl))
  t0 := Tryd.underlying0
  a0 := Tryd.isAgg0
  z0 := Tryd.sizeOf0
  v0 := Tryd.zeroValue0
  t3 := Tryd.underlying3
  a3 := Tryd.isAgg3
  z3 := Tryd.sizeOf3
  v3 := Tryd.zeroValue3
  t4 := Tryd.underlying4
  a4 := Tryd.isAgg4
  z4 := Tryd.sizeOf4
  v4 := Tryd.zeroValue4
  t5 := Tryd.underlying5
  a5 := Tryd.isAgg5
  z5 := Tryd.sizeOf5
  v5 := Tryd.zeroValue5
  t9 := Tryd.underlying9
  a9 := Tryd.isAgg9
  z9 := Tryd.sizeOf9
  v9 := Tryd.zeroValue9
  t20 := Tryd.underlying20
  a20 := Tryd.isAgg20
  z20 := Tryd.sizeOf20
  v20 := Tryd.zeroValue20
  t37 := Tryd.underlying100
  a37 := Tryd.isAgg100
  z37 := Tryd.sizeOf100
  v37 := Tryd.zeroValue100
  t46 := Tryd.underlying131
  a46 := Tryd.isAgg131
  z46 := Tryd.sizeOf131
  v46 := Tryd.zeroValue131
  t51 := Tryd.underlying153
  a51 := Tryd.isAgg153
  z51 := Tryd.sizeOf153
  v51 := Tryd.zeroValue153
  t53 := Tryd.underlying23
  a53 := Tryd.isAgg23
  z53 := Tryd.sizeOf23
  v53 := Tryd.zeroValue23
  t171 := Tryd.underlying163
  a171 := Tryd.isAgg163
  z171 := Tryd.sizeOf163
  v171 := Tryd.zeroValue163
  t173 := Tryd.underlying165
  a173 := Tryd.isAgg165
  z173 := Tryd.sizeOf165
  v173 := Tryd.zeroValue165
  t212 := Tryd.underlying175
  a212 := Tryd.isAgg175
  z212 := Tryd.sizeOf175
  v212 := Tryd.zeroValue175
  t213 := Tryd.underlying176
  a213 := Tryd.isAgg176
  z213 := Tryd.sizeOf176
  t232 := Tryd.underlying188
  a232 := Tryd.isAgg188
  z232 := Tryd.sizeOf188
  v232 := Tryd.zeroValue188
  t233 := Tryd.underlying189
  a233 := Tryd.isAgg189
  z233 := Tryd.sizeOf189
  v233 := Tryd.zeroValue189
  g17 := by kernel_rfl
  g18 := by kernel_rfl
  g19 := by kernel_rfl
  i0 := by kernel_rfl
  i3 := by kernel_rfl
  i4 := by kernel_rfl
  i5 := by kernel_rfl
  i9 := by kernel_rfl
  i20 := by kernel_rfl
  i37 := by kernel_rfl
  i46 := by kernel_rfl
  i51 := by kernel_rfl
  i53 := by kernel_rfl
  i171 := by kernel_rfl
  i173 := by kernel_rfl
  i212 := by kernel_rfl
  i232 := by kernel_rfl
  i233 := by kernel_rfl
  m17 := by kernel_rfl
  m18 := by kernel_rfl
  m19 := by kernel_rfl }
open Go.RowKit Go.Sort Go.Lib in
theorem Tryd.internal_strconv_AppendUint_10 (B n u : Nat) (hu64 : u < 18446744073709551616) (sv : Value) (xs : List Value) (w : World) (hown : w.ownsRow B 5 1 sv n xs) (hBw : B ≤ w.heap.size) (hlim : n + 20 ≤ 140737488355328) (htab : Lib.TabIs Tryd.prog w "internal/strconv.uint64pow10" .u64 Lib.pow10Tab) :
    Calls Tryd.prog 89 #[sv, .int .u64 u, .int .i64 10] w fun e w' => ∃ v', e = .returned v' ∧ w'.ownsRow B 5 1 v' (n + (Lib.decDigits u).length) (xs ++ Lib.byteCells (Lib.decDigits u)) ∧ Below B w w' ∧ Lib.OthersKept 5 none w w' := Any.internal_strconv_AppendUint_10 Tryd.laysM288 B n u hu64 sv xs w hown hBw hlim htab
end Go.Proofs
namespace Go.Proofs.YtffcnonhhfhlhaaDoor.Rg
open Go.RowKit Go.Shelf Go.Sort
set_option linter.unusedVariables false

def PowB (B : Nat) (w : World) : Prop := Lib.TabBelow Tryd.prog B w "internal/strconv.uint64pow10" .u64 Lib.pow10Tab
/-- bytes that are owned, and what a call on them leaves -/
structure Ap (B : Nat) (w w' : World) (v : Value) (l : List UInt8) : Prop where
  own : w'.ownsRow B 5 1 v l.length (Lib.byteCells l)
  bel : Below B w w'
  oth : Lib.OthersKept 5 none w w'
theorem byteCells_append (a b : List UInt8) : Lib.byteCells (a ++ b) = Lib.byteCells a ++ Lib.byteCells b := by simp [Lib.byteCells]
theorem own_slice5 {w : World} {B n : Nat} {v : Value} {xs : List Value} (h : w.ownsRow B 5 1 v n xs) : ∃ ad cap, v = .slice ad n cap := own_slice h

theorem unh {p : Prop} (h : Hid p) : p := h
set_option maxHeartbeats 400000 in
theorem appendUint_any (B : Nat) (w : World) (v : Value) (l : List UInt8) (n : Int) (h0 : 0 ≤ n) (h1 : n < 18446744073709551616) (hown : w.ownsRow B 5 1 v l.length (Lib.byteCells l)) (hB : B ≤ w.heap.size) (hl : l.length ≤ 1000000) (hp : PowB B w) :
    Calls Tryd.prog 74 #[v, .int .u64 n, .int .i64 10] w fun e w' => ∃ v', e = .returned v' ∧ Ap B w w' v' (l ++ Lib.decDigits n.toNat) := by
  have C := Tryd.internal_strconv_AppendUint_10 B l.length n.toNat (by omega) v _ w hown hB (by omega) hp.here
  rw [show ((n.toNat : Nat) : Int) = n by omega] at C
  obtain ⟨ad, cp, hv⟩ := own_slice hown
  generalize hN : l.length = N at hv C
  have HN := hide hN
  subst hv
  clear hown hp hN
  go_enter Tryd.func74, Tryd.ntmps74
  go_wp2_with fail
  refine C.mono ?_; rintro e w' ⟨v', rfl, h2, h3, h4⟩
  have HF : Hid (Ap B w w' v' (l ++ Lib.decDigits n.toNat)) := ⟨by rw [List.length_append, byteCells_append, HN.out]; exact h2, h3, h4⟩
  obtain ⟨ad', cp', hv'⟩ := own_slice h2
  generalize N + (Lib.decDigits n.toNat).length = N' at hv'
  subst hv'
  clear C h2 h3 h4
  go_wp2
  go_ret
  exact ⟨_, rfl, HF.out⟩

theorem Ap.pow {B : Nat} {w w' : World} {v : Value} {l : List UInt8} (h : Ap B w w' v l) (hp : PowB B w) : PowB B w' := hp.on h.bel
theorem Ap.seq {B : Nat} {w w1 w' : World} {v v1 : Value} {l l1 : List UInt8} (h : Ap B w w1 v1 l1) (k : Ap B w1 w' v l) : Ap B w w' v l := ⟨k.own, h.bel.trans k.bel, h.oth.trans k.oth⟩
theorem Ap.grown {B : Nat} {w w1 w2 w3 : World} {v v' : Value} {l l' : List UInt8} (h : Ap B w w1 v l) (hB : B ≤ w1.heap.size) (o : Obj) (hw2 : w2 = w1.alloc o) (hg : w2.grownBy w3 v.ownBlock) (ho : w3.ownsRow B 5 1 v' l'.length (Lib.byteCells l')) : Ap B w w3 v' l' := by
  subst hw2
  have h2 := h.own.alloc o
  exact ⟨ho, (h.bel.alloc hB o).grown hg (by simp; omega) (fun k hk => (h.own.lt k hk).1), (h.oth.alloc o).grown hg (Lib.ownsRow_kind h2)⟩

set_option maxRecDepth 100000 in
set_option maxHeartbeats 1000000 in
theorem addWord_any (B : Nat) (w : World) (v : Value) (l : List UInt8) (s : Sg) (hs : SgB s) (hown : w.ownsRow B 5 1 v l.length (Lib.byteCells l)) (hB : B ≤ w.heap.size) (hl : l.length ≤ 900000) (hp : PowB B w) :
    Calls Tryd.prog 54 #[v, enc s] w fun e w' => ∃ v', e = .returned v' ∧ Ap B w w' v' (l ++ wrd s) := by
  have mixed : Tryd.prog.follows .mixedOrders = true := by kernel_rfl
  obtain ⟨i0, hi, hz0, hz1, hz2⟩ := info_parts info5
  have d1 := dec_len s.lo.toNat (by have := hs.l0; have := hs.l1; omega)
  have d2 := dec_len s.hi.toNat (by have := hs.h0; have := hs.h1; omega)
  have o0 := hs.o0
  have o1 := hs.o1
  have hwr : IntKind.u64.wrap s.h = s.h := by rw [IntKind.wrap_u64]; omega
  obtain ⟨O, hO⟩ : ∃ O : Obj, O = .cells #[.int .u64 s.lo, .int .u64 s.hi, .int .u8 s.h] 26 := ⟨_, rfl⟩
  have A0 : Ap B w (w.alloc O) v l := ⟨hown.alloc O, (Below.refl B w).alloc hB O, (Lib.OthersKept.refl _ _ _).alloc O⟩
  have b0 : (w.alloc O).heap[w.heap.size]? = some (.cells #[.int .u64 s.lo, .int .u64 s.hi, .int .u8 s.h] 26 (0, 0)) := by rw [hO]; exact heap_alloc_new w _
  have C1 := appendUint_any B (w.alloc O) v l s.lo hs.l0 hs.l1 A0.own (by simp; omega) (by omega) (A0.pow hp)
  have keepb : ∀ W V l', Ap B (w.alloc O) W V l' → W.heap[w.heap.size]? = some (.cells #[.int .u64 s.lo, .int .u64 s.hi, .int .u8 s.h] 26 (0, 0)) := fun W V l' h => h.oth _ _ b0 (by simp) (by intro c fz e; cases e)
  obtain ⟨x0, x1, x2⟩ := cell3 b0
  obtain ⟨ad, cp, hv⟩ := own_slice hown
  subst hO
  have HA0 := hide A0
  have HKB := hide keepb
  have HP := hide hp
  generalize hN : l.length = N at hv C1 d1 hl
  have HN := hide hN
  subst hv
  clear hown hp b0 A0 keepb hN
  simp only [enc]
  go_enter Tryd.func54, Tryd.ntmps54
  go_wp2_with fail
  refine C1.mono ?_; rintro e w1 ⟨v1, rfl, A1⟩
  obtain ⟨ad1, cp1, hv1⟩ := own_slice A1.own
  have HA1 := hide A1
  have hs1 : B ≤ w1.heap.size := Nat.le_trans hB (Nat.le_trans (by simp) A1.bel.size)
  obtain ⟨N1, hN1⟩ : ∃ N1, (l ++ Lib.decDigits s.lo.toNat).length = N1 := ⟨_, rfl⟩
  have hn1 : N1 ≤ 900020 := by rw [← hN1, List.length_append, HN.out]; omega
  rw [hN1] at hv1
  have HN1 := hide hN1
  subst hv1
  clear C1 A1 hN1 x0 x1 x2
  go_wp2_with (at_builtin; refine unh ?_)
  refine hide ?_
  refine wpList_append_own _ rfl _ _ 100 rfl B 5 i0 _ 1 1 Tryd.underlying100 hi hz0 hz1 hz2 rfl (by decide) _ N1 (Lib.byteCells (l ++ Lib.decDigits s.lo.toNat)) rfl (by have h := HA1.out.own; rw [HN1.out] at h; exact h.alloc _) ⟨w1.heap.size, 0, none⟩ 1 1 [.int .u8 45] rfl rfl (new1b _ _) (by simp [Value.oneCell']) (by unfold maxLen; omega) (by omega) (by simp; omega) ?_
  intro v2 w2 hown2 hg2 _
  have A2 : Ap B (w.alloc (.cells #[.int .u64 s.lo, .int .u64 s.hi, .int .u8 s.h] 26)) w2 v2 (l ++ Lib.decDigits s.lo.toNat ++ [45]) := HA1.out.grown (l' := l ++ Lib.decDigits s.lo.toNat ++ [45]) hs1 _ rfl hg2 (by rw [List.length_append, HN1.out, byteCells_append]; exact hown2)
  obtain ⟨ad2, cp2, hv2⟩ := own_slice A2.own
  have HA2 := hide A2
  have hs2 : B ≤ w2.heap.size := Nat.le_trans hB (Nat.le_trans (by simp) A2.bel.size)
  obtain ⟨N2, hN2⟩ : ∃ N2, (l ++ Lib.decDigits s.lo.toNat ++ [45]).length = N2 := ⟨_, rfl⟩
  have hn2 : N2 ≤ 900021 := by rw [← hN2]; have := HN.out; simp at *; omega
  rw [hN2] at hv2
  have HN2 := hide hN2
  have C2 := appendUint_any B w2 v2 (l ++ Lib.decDigits s.lo.toNat ++ [45]) s.hi hs.h0 hs.h1 A2.own hs2 (by rw [hN2]; omega) (A2.pow (HA0.out.pow HP.out))
  obtain ⟨_, y1, _⟩ := cell3 (HKB.out _ _ _ A2)
  subst hv2
  clear A2 hN2 hown2 hg2
  go_wp2_with fail
  refine C2.mono ?_; rintro e w3 ⟨v3, rfl, A3'⟩
  have A3 := HA2.out.seq A3'
  obtain ⟨ad3, cp3, hv3⟩ := own_slice A3.own
  have HA3 := hide A3
  have hs3 : B ≤ w3.heap.size := Nat.le_trans hB (Nat.le_trans (by simp) A3.bel.size)
  obtain ⟨N3, hN3⟩ : ∃ N3, (l ++ Lib.decDigits s.lo.toNat ++ [45] ++ Lib.decDigits s.hi.toNat).length = N3 := ⟨_, rfl⟩
  have hn3 : N3 ≤ 900041 := by rw [← hN3]; have := HN.out; simp at *; omega
  rw [hN3] at hv3
  have HN3 := hide hN3
  subst hv3
  clear C2 A3 A3' hN3 y1
  go_wp2_with (at_builtin; refine unh ?_)
  refine hide ?_
  refine wpList_append_own _ rfl _ _ 100 rfl B 5 i0 _ 1 1 Tryd.underlying100 hi hz0 hz1 hz2 rfl (by decide) _ N3 (Lib.byteCells (l ++ Lib.decDigits s.lo.toNat ++ [45] ++ Lib.decDigits s.hi.toNat)) rfl (by have h := HA3.out.own; rw [HN3.out] at h; exact h.alloc _) ⟨w3.heap.size, 0, none⟩ 1 1 [.int .u8 58] rfl rfl (new1b _ _) (by simp [Value.oneCell']) (by unfold maxLen; omega) (by omega) (by simp; omega) ?_
  intro v4 w4 hown4 hg4 _
  have A4 : Ap B (w.alloc (.cells #[.int .u64 s.lo, .int .u64 s.hi, .int .u8 s.h] 26)) w4 v4 (l ++ Lib.decDigits s.lo.toNat ++ [45] ++ Lib.decDigits s.hi.toNat ++ [58]) := HA3.out.grown (l' := l ++ Lib.decDigits s.lo.toNat ++ [45] ++ Lib.decDigits s.hi.toNat ++ [58]) hs3 _ rfl hg4 (by rw [List.length_append, HN3.out, byteCells_append]; exact hown4)
  obtain ⟨ad4, cp4, hv4⟩ := own_slice A4.own
  have HA4 := hide A4
  have hs4 : B ≤ w4.heap.size := Nat.le_trans hB (Nat.le_trans (by simp) A4.bel.size)
  obtain ⟨N4, hN4⟩ : ∃ N4, (l ++ Lib.decDigits s.lo.toNat ++ [45] ++ Lib.decDigits s.hi.toNat ++ [58]).length = N4 := ⟨_, rfl⟩
  have hn4 : N4 ≤ 900042 := by rw [← hN4]; have := HN.out; simp at *; omega
  rw [hN4] at hv4
  have HN4 := hide hN4
  have C3 := appendUint_any B w4 v4 (l ++ Lib.decDigits s.lo.toNat ++ [45] ++ Lib.decDigits s.hi.toNat ++ [58]) s.h o0 (by omega) A4.own hs4 (by rw [hN4]; omega) (A4.pow (HA0.out.pow HP.out))
  obtain ⟨_, _, y2⟩ := cell3 (HKB.out _ _ _ A4)
  subst hv4
  clear A4 hN4 hown4 hg4
  go_wp2_with fail
  refine C3.mono ?_; rintro e w5 ⟨v5, rfl, A5'⟩
  have A5 := (HA0.out.seq HA4.out).seq A5'
  obtain ⟨ad5, cp5, hv5⟩ := own_slice A5.own
  have HA5 := hide A5
  generalize (l ++ Lib.decDigits s.lo.toNat ++ [45] ++ Lib.decDigits s.hi.toNat ++ [58] ++ Lib.decDigits s.h.toNat).length = N5 at hv5
  subst hv5
  clear C3 A5 A5' y2
  go_wp2
  go_ret
  refine ⟨_, rfl, ?_⟩
  have h := HA5.out
  have e : l ++ Lib.decDigits s.lo.toNat ++ [45] ++ Lib.decDigits s.hi.toNat ++ [58] ++ Lib.decDigits s.h.toNat = l ++ wrd s := by simp [wrd]
  rw [e] at h
  exact h
end Go.Proofs.YtffcnonhhfhlhaaDoor.Rg
