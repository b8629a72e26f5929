import Derived.Test.YtchealdgncgjoaaSaC
import Derived.Test.YtchealdgncgjoaaBwB
namespace Go.Proofs.Ytchealdgncgjoaa.StI
open Go.RowKit Go.Proofs.Ytchealdgncgjoaa.St Go.Shelf Go.Sort Go.Proofs.Ytchealdgncgjoaa.It
attribute [local go_sem] Oper.semAt_some
set_option linter.unusedVariables false
/-- the boxes that stay from round to round -/
structure Sy (bs ba br bM bR bT mb rb B n1 : Nat) (vk vv : Value) : Prop where
  sa : bs < ba
  ar : ba < br
  rB : br < B
  mB : B ≤ mb
  m1 : mb < n1
  dB : B ≤ rb
  d1 : rb < n1
  kB : ∀ g, vk.ownBlock = some g → B ≤ g ∧ g < n1
  vB : ∀ g, vv.ownBlock = some g → B ≤ g ∧ g < n1
  nM : n1 ≤ bM
  MR : bM < bR
  RT : bR < bT
theorem Sy.x {bs ba br bM bR bT bi mb rb B n1 : Nat} {vk vv : Value} (h : Sy bs ba br bM bR bT mb rb B n1 vk vv) (hi : bT < bi) : Sx bs ba br bM bR bT bi mb rb B n1 vk vv := ⟨h.sa, h.ar, h.rB, h.mB, h.m1, h.dB, h.d1, h.kB, h.vB, h.nM, h.MR, h.RT, hi⟩
/-- the frame inside the walk -/
def FrB (bs ba br bM bR bT bi : Nat) (xx : Int × Int) (a : Act) : Prop := ∃ g : Nat → Value, a = { tmps := #[g 0, g 1, g 2, g 3, g 4, g 5, .pointer (some ⟨bs, 0, none⟩), .pointer (some ⟨ba, 0, none⟩), .pointer (some ⟨br, 0, none⟩), .pointer (some ⟨bM, 0, none⟩), .pointer (some ⟨bR, 0, none⟩), .pointer (some ⟨bT, 0, none⟩), g 12, .pointer (some ⟨bi, 0, none⟩), g 14, .int .i64 xx.1, .int .i64 xx.2, g 17, g 18, g 19, g 20, g 21, g 22, g 23, g 24, g 25, g 26, g 27, g 28, g 29, g 30, g 31, g 32, g 33, g 34, g 35, g 36, g 37, g 38, g 39, g 40, g 41, g 42, g 43, g 44, g 45, g 46, g 47, g 48, g 49, g 50, g 51, g 52, g 53, g 54, g 55, g 56, g 57, g 58, g 59, g 60, g 61, g 62, g 63, g 64, g 65, g 66, g 67, g 68, g 69, g 70, g 71, g 72, g 73, g 74, g 75, g 76, g 77, g 78, g 79, g 80, g 81, g 82, g 83, g 84, g 85, g 86, g 87, g 88, g 89, g 90, g 91, g 92, g 93, g 94, g 95, g 96, g 97, g 98, g 99, g 100, g 101, g 102, g 103, g 104, g 105, g 106, g 107, g 108, g 109, g 110, g 111, g 112, g 113, g 114, g 115, g 116, g 117, g 118, g 119, g 120, g 121, g 122, g 123, g 124, g 125, g 126, g 127, g 128, g 129, g 130, g 131, g 132, g 133, g 134, g 135, g 136, g 137, g 138, g 139, g 140, g 141], defers := [] }
set_option maxRecDepth 100000 in
theorem FrB.of {bs ba br bM bR bT bi : Nat} {xx : Int × Int} {a : Act} (h : a = { tmps := #[a.tmps.getD 0 undef, a.tmps.getD 1 undef, a.tmps.getD 2 undef, a.tmps.getD 3 undef, a.tmps.getD 4 undef, a.tmps.getD 5 undef, .pointer (some ⟨bs, 0, none⟩), .pointer (some ⟨ba, 0, none⟩), .pointer (some ⟨br, 0, none⟩), .pointer (some ⟨bM, 0, none⟩), .pointer (some ⟨bR, 0, none⟩), .pointer (some ⟨bT, 0, none⟩), a.tmps.getD 12 undef, .pointer (some ⟨bi, 0, none⟩), a.tmps.getD 14 undef, .int .i64 xx.1, .int .i64 xx.2, a.tmps.getD 17 undef, a.tmps.getD 18 undef, a.tmps.getD 19 undef, a.tmps.getD 20 undef, a.tmps.getD 21 undef, a.tmps.getD 22 undef, a.tmps.getD 23 undef, a.tmps.getD 24 undef, a.tmps.getD 25 undef, a.tmps.getD 26 undef, a.tmps.getD 27 undef, a.tmps.getD 28 undef, a.tmps.getD 29 undef, a.tmps.getD 30 undef, a.tmps.getD 31 undef, a.tmps.getD 32 undef, a.tmps.getD 33 undef, a.tmps.getD 34 undef, a.tmps.getD 35 undef, a.tmps.getD 36 undef, a.tmps.getD 37 undef, a.tmps.getD 38 undef, a.tmps.getD 39 undef, a.tmps.getD 40 undef, a.tmps.getD 41 undef, a.tmps.getD 42 undef, a.tmps.getD 43 undef, a.tmps.getD 44 undef, a.tmps.getD 45 undef, a.tmps.getD 46 undef, a.tmps.getD 47 undef, a.tmps.getD 48 undef, a.tmps.getD 49 undef, a.tmps.getD 50 undef, a.tmps.getD 51 undef, a.tmps.getD 52 undef, a.tmps.getD 53 undef, a.tmps.getD 54 undef, a.tmps.getD 55 undef, a.tmps.getD 56 undef, a.tmps.getD 57 undef, a.tmps.getD 58 undef, a.tmps.getD 59 undef, a.tmps.getD 60 undef, a.tmps.getD 61 undef, a.tmps.getD 62 undef, a.tmps.getD 63 undef, a.tmps.getD 64 undef, a.tmps.getD 65 undef, a.tmps.getD 66 undef, a.tmps.getD 67 undef, a.tmps.getD 68 undef, a.tmps.getD 69 undef, a.tmps.getD 70 undef, a.tmps.getD 71 undef, a.tmps.getD 72 undef, a.tmps.getD 73 undef, a.tmps.getD 74 undef, a.tmps.getD 75 undef, a.tmps.getD 76 undef, a.tmps.getD 77 undef, a.tmps.getD 78 undef, a.tmps.getD 79 undef, a.tmps.getD 80 undef, a.tmps.getD 81 undef, a.tmps.getD 82 undef, a.tmps.getD 83 undef, a.tmps.getD 84 undef, a.tmps.getD 85 undef, a.tmps.getD 86 undef, a.tmps.getD 87 undef, a.tmps.getD 88 undef, a.tmps.getD 89 undef, a.tmps.getD 90 undef, a.tmps.getD 91 undef, a.tmps.getD 92 undef, a.tmps.getD 93 undef, a.tmps.getD 94 undef, a.tmps.getD 95 undef, a.tmps.getD 96 undef, a.tmps.getD 97 undef, a.tmps.getD 98 undef, a.tmps.getD 99 undef, a.tmps.getD 100 undef, a.tmps.getD 101 undef, a.tmps.getD 102 undef, a.tmps.getD 103 undef, a.tmps.getD 104 undef, a.tmps.getD 105 undef, a.tmps.getD 106 undef, a.tmps.getD 107 undef, a.tmps.getD 108 undef, a.tmps.getD 109 undef, a.tmps.getD 110 undef, a.tmps.getD 111 undef, a.tmps.getD 112 undef, a.tmps.getD 113 undef, a.tmps.getD 114 undef, a.tmps.getD 115 undef, a.tmps.getD 116 undef, a.tmps.getD 117 undef, a.tmps.getD 118 undef, a.tmps.getD 119 undef, a.tmps.getD 120 undef, a.tmps.getD 121 undef, a.tmps.getD 122 undef, a.tmps.getD 123 undef, a.tmps.getD 124 undef, a.tmps.getD 125 undef, a.tmps.getD 126 undef, a.tmps.getD 127 undef, a.tmps.getD 128 undef, a.tmps.getD 129 undef, a.tmps.getD 130 undef, a.tmps.getD 131 undef, a.tmps.getD 132 undef, a.tmps.getD 133 undef, a.tmps.getD 134 undef, a.tmps.getD 135 undef, a.tmps.getD 136 undef, a.tmps.getD 137 undef, a.tmps.getD 138 undef, a.tmps.getD 139 undef, a.tmps.getD 140 undef, a.tmps.getD 141 undef], defers := [] }) : FrB bs ba br bM bR bT bi xx a := ⟨fun i => a.tmps.getD i undef, h⟩
/-- where the two rounds stand -/
def SaI (w : World) (bs ba br bM bR bT mb rb B : Nat) (vk vv : Value) (stop ahead : Int) (ks : List Int) (c : Int) (a : Act) (V : World) : Prop :=
  ∃ (rd : Nat) (Ls : List Nat) (f : Nat → Value), rd ≤ 2 ∧ a = { tmps := #[f 0, f 1, f 2, f 3, f 4, f 5, .pointer (some ⟨bs, 0, none⟩), .pointer (some ⟨ba, 0, none⟩), .pointer (some ⟨br, 0, none⟩), .pointer (some ⟨bM, 0, none⟩), .pointer (some ⟨bR, 0, none⟩), .pointer (some ⟨bT, 0, none⟩), .int .i64 (rd : Int), f 13, f 14, f 15, f 16, f 17, f 18, f 19, f 20, f 21, f 22, f 23, f 24, f 25, f 26, f 27, f 28, f 29, f 30, f 31, f 32, f 33, f 34, f 35, f 36, f 37, f 38, f 39, f 40, f 41, f 42, f 43, f 44, f 45, f 46, f 47, f 48, f 49, f 50, f 51, f 52, f 53, f 54, f 55, f 56, f 57, f 58, f 59, f 60, f 61, f 62, f 63, f 64, f 65, f 66, f 67, f 68, f 69, f 70, f 71, f 72, f 73, f 74, f 75, f 76, f 77, f 78, f 79, f 80, f 81, f 82, f 83, f 84, f 85, f 86, f 87, f 88, f 89, f 90, f 91, f 92, f 93, f 94, f 95, f 96, f 97, f 98, f 99, f 100, f 101, f 102, f 103, f 104, f 105, f 106, f 107, f 108, f 109, f 110, f 111, f 112, f 113, f 114, f 115, f 116, f 117, f 118, f 119, f 120, f 121, f 122, f 123, f 124, f 125, f 126, f 127, f 128, f 129, f 130, f 131, f 132, f 133, f 134, f 135, f 136, f 137, f 138, f 139, f 140, f 141], defers := Ls.map (fun D => { target := .collected D, args := #[] }) } ∧ Hid (∃ t, So V bs ba br bM bR bT mb rb B vk vv stop ahead ((rd : Int) * c) t t.xs ∧ t.xs.map Prod.fst = ks ∧ Below w.heap.size w V ∧ Ls.Nodup ∧ ∀ D ∈ Ls, w.heap.size ≤ D ∧ V.heap[D]? = some (.deferred (some [])))
set_option maxRecDepth 100000 in
theorem SaI.of {w V : World} {bs ba br bM bR bT mb rb B : Nat} {vk vv : Value} {stop ahead : Int} {ks : List Int} {c : Int} {a : Act} (rd : Nat) (Ls : List Nat) (h1 : rd ≤ 2) (ha : a = { tmps := #[a.tmps.getD 0 undef, a.tmps.getD 1 undef, a.tmps.getD 2 undef, a.tmps.getD 3 undef, a.tmps.getD 4 undef, a.tmps.getD 5 undef, .pointer (some ⟨bs, 0, none⟩), .pointer (some ⟨ba, 0, none⟩), .pointer (some ⟨br, 0, none⟩), .pointer (some ⟨bM, 0, none⟩), .pointer (some ⟨bR, 0, none⟩), .pointer (some ⟨bT, 0, none⟩), .int .i64 (rd : Int), a.tmps.getD 13 undef, a.tmps.getD 14 undef, a.tmps.getD 15 undef, a.tmps.getD 16 undef, a.tmps.getD 17 undef, a.tmps.getD 18 undef, a.tmps.getD 19 undef, a.tmps.getD 20 undef, a.tmps.getD 21 undef, a.tmps.getD 22 undef, a.tmps.getD 23 undef, a.tmps.getD 24 undef, a.tmps.getD 25 undef, a.tmps.getD 26 undef, a.tmps.getD 27 undef, a.tmps.getD 28 undef, a.tmps.getD 29 undef, a.tmps.getD 30 undef, a.tmps.getD 31 undef, a.tmps.getD 32 undef, a.tmps.getD 33 undef, a.tmps.getD 34 undef, a.tmps.getD 35 undef, a.tmps.getD 36 undef, a.tmps.getD 37 undef, a.tmps.getD 38 undef, a.tmps.getD 39 undef, a.tmps.getD 40 undef, a.tmps.getD 41 undef, a.tmps.getD 42 undef, a.tmps.getD 43 undef, a.tmps.getD 44 undef, a.tmps.getD 45 undef, a.tmps.getD 46 undef, a.tmps.getD 47 undef, a.tmps.getD 48 undef, a.tmps.getD 49 undef, a.tmps.getD 50 undef, a.tmps.getD 51 undef, a.tmps.getD 52 undef, a.tmps.getD 53 undef, a.tmps.getD 54 undef, a.tmps.getD 55 undef, a.tmps.getD 56 undef, a.tmps.getD 57 undef, a.tmps.getD 58 undef, a.tmps.getD 59 undef, a.tmps.getD 60 undef, a.tmps.getD 61 undef, a.tmps.getD 62 undef, a.tmps.getD 63 undef, a.tmps.getD 64 undef, a.tmps.getD 65 undef, a.tmps.getD 66 undef, a.tmps.getD 67 undef, a.tmps.getD 68 undef, a.tmps.getD 69 undef, a.tmps.getD 70 undef, a.tmps.getD 71 undef, a.tmps.getD 72 undef, a.tmps.getD 73 undef, a.tmps.getD 74 undef, a.tmps.getD 75 undef, a.tmps.getD 76 undef, a.tmps.getD 77 undef, a.tmps.getD 78 undef, a.tmps.getD 79 undef, a.tmps.getD 80 undef, a.tmps.getD 81 undef, a.tmps.getD 82 undef, a.tmps.getD 83 undef, a.tmps.getD 84 undef, a.tmps.getD 85 undef, a.tmps.getD 86 undef, a.tmps.getD 87 undef, a.tmps.getD 88 undef, a.tmps.getD 89 undef, a.tmps.getD 90 undef, a.tmps.getD 91 undef, a.tmps.getD 92 undef, a.tmps.getD 93 undef, a.tmps.getD 94 undef, a.tmps.getD 95 undef, a.tmps.getD 96 undef, a.tmps.getD 97 undef, a.tmps.getD 98 undef, a.tmps.getD 99 undef, a.tmps.getD 100 undef, a.tmps.getD 101 undef, a.tmps.getD 102 undef, a.tmps.getD 103 undef, a.tmps.getD 104 undef, a.tmps.getD 105 undef, a.tmps.getD 106 undef, a.tmps.getD 107 undef, a.tmps.getD 108 undef, a.tmps.getD 109 undef, a.tmps.getD 110 undef, a.tmps.getD 111 undef, a.tmps.getD 112 undef, a.tmps.getD 113 undef, a.tmps.getD 114 undef, a.tmps.getD 115 undef, a.tmps.getD 116 undef, a.tmps.getD 117 undef, a.tmps.getD 118 undef, a.tmps.getD 119 undef, a.tmps.getD 120 undef, a.tmps.getD 121 undef, a.tmps.getD 122 undef, a.tmps.getD 123 undef, a.tmps.getD 124 undef, a.tmps.getD 125 undef, a.tmps.getD 126 undef, a.tmps.getD 127 undef, a.tmps.getD 128 undef, a.tmps.getD 129 undef, a.tmps.getD 130 undef, a.tmps.getD 131 undef, a.tmps.getD 132 undef, a.tmps.getD 133 undef, a.tmps.getD 134 undef, a.tmps.getD 135 undef, a.tmps.getD 136 undef, a.tmps.getD 137 undef, a.tmps.getD 138 undef, a.tmps.getD 139 undef, a.tmps.getD 140 undef, a.tmps.getD 141 undef], defers := Ls.map (fun D => { target := .collected D, args := #[] }) }) (hR : ∃ t, So V bs ba br bM bR bT mb rb B vk vv stop ahead ((rd : Int) * c) t t.xs ∧ t.xs.map Prod.fst = ks ∧ Below w.heap.size w V ∧ Ls.Nodup ∧ ∀ D ∈ Ls, w.heap.size ≤ D ∧ V.heap[D]? = some (.deferred (some []))) : SaI w bs ba br bM bR bT mb rb B vk vv stop ahead ks c a V :=
  ⟨rd, Ls, fun i => a.tmps.getD i undef, h1, ha, hide hR⟩
def saM (a : Act) (V : World) : Nat := 2 - (intOf (a.tmps.getD 12 undef)).toNat
theorem mea2 {k : Nat} (h : k < 2) : 2 - (intOf (.int .i64 ((k : Int) + 1))).toNat < 2 - (intOf (.int .i64 (k : Int))).toNat := by simp [intOf]; omega
/-- how many are told in a round -/
def cnt (stop : Int) (K : Nat) : Int := if 0 ≤ stop ∧ stop < (K : Int) then stop + 1 else (K : Int)
theorem cnt_b (stop : Int) (K : Nat) : 0 ≤ cnt stop K ∧ cnt stop K ≤ (K : Int) := by unfold cnt; split <;> omega
/-- a round is over -/
theorem sa_next {w V : World} {bs ba br bM bR bT bi mb rb B : Nat} {vk vv : Value} {stop ahead told i : Int} {ks : List Int} {Ls : List Nat} {D C rd : Nat} {t : T (Int × Int)} (h : Sa V bs ba br bM bR bT bi mb rb B vk vv stop ahead told i t t.xs) (e : told = ((rd + 1 : Nat) : Int) * cnt stop ks.length) (hk : t.xs.map Prod.fst = ks) (hb : Below w.heap.size w V) (hn : Ls.Nodup) (hL : ∀ D ∈ Ls, w.heap.size ≤ D) (hL2 : ∀ D ∈ Ls, V.heap[D]? = some (.deferred (some []))) (hLC : ∀ D ∈ Ls, D < C) (hD : C ≤ D) (hC : w.heap.size ≤ C) (hd : V.heap[D]? = some (.deferred (some []))) :
    ∃ t, So V bs ba br bM bR bT mb rb B vk vv stop ahead (((rd + 1 : Nat) : Int) * cnt stop ks.length) t t.xs ∧ t.xs.map Prod.fst = ks ∧ Below w.heap.size w V ∧ (D :: Ls).Nodup ∧ ∀ D' ∈ D :: Ls, w.heap.size ≤ D' ∧ V.heap[D']? = some (.deferred (some [])) := by
  refine ⟨t, by rw [← e]; exact h.so, hk, hb, List.nodup_cons.2 ⟨fun hm => by have := hLC D hm; omega, hn⟩, fun D' hD' => ?_⟩
  rcases List.mem_cons.1 hD' with rfl | hD'
  · exact ⟨by omega, hd⟩
  · exact ⟨hL D' hD', hL2 D' hD'⟩
theorem told_done {rd : Nat} {stop : Int} {ks : List Int} {ys : List (Int × Int)} (h : ys.map Prod.fst = ks) (hno : ¬ (0 ≤ stop ∧ stop < (ys.length : Int))) : (rd : Int) * cnt stop ks.length + (ys.length : Int) = ((rd + 1 : Nat) : Int) * cnt stop ks.length := by
  have e : ys.length = ks.length := by rw [← h]; simp
  unfold cnt
  rw [e] at hno ⊢
  rw [if_neg hno, Int.natCast_add, Int.add_mul]
  simp
theorem told_stop {rd : Nat} {stop : Int} {ks : List Int} {ys : List (Int × Int)} (h : ys.map Prod.fst <+: ks) (hs : stop + 1 = (ys.length : Int)) (h0 : 0 < ys.length) : (rd : Int) * cnt stop ks.length + (ys.length : Int) = ((rd + 1 : Nat) : Int) * cnt stop ks.length := by
  have e : ys.length ≤ ks.length := by have := h.length_le; simpa using this
  unfold cnt
  rw [if_pos ⟨by omega, by omega⟩, Int.natCast_add, Int.add_mul, hs]
  simp
set_option maxRecDepth 100000 in
set_option maxHeartbeats 6000000 in
theorem storeAll_walk (w : World) (v0 v1 : Value) (S O : List Int) (stop ahead : Int) (hS : Wi w v0 S) (hO : Wi w v1 O) (hl0 : S.length ≤ 17592186043904) (hl1 : O.length ≤ 17592186043904) :
    Calls Try.prog 6 #[v0, v1, .int .i64 stop, .int .i64 ahead] w fun e w' => e = .returned (.bool true) ∧ Kp Nu w w' := by
  have mixed : Try.prog.follows .mixedOrders = true := by kernel_rfl
  have HW := hide (And.intro hS (And.intro hO (And.intro hl0 hl1)))
  clear hS hO hl0 hl1
  refine (callsIn_wide (n := 4)).1 ?_
  refine callsIn_of_wp_marks Try.func6 rfl trivial ?_ rfl
  simp only [Try.ntmps6, List.size_toArray, List.length_cons, List.length_nil, Nat.reduceAdd, Nat.reduceSub, Array.replicate_succ, Array.replicate_zero, List.push_toArray, List.append_toArray, List.nil_append, List.cons_append]
  gi_wp2_with fail
  have k0 : Kp Nu w (((w.alloc (.cells #[.int .i64 stop] 3)).alloc (.cells #[.int .i64 ahead] 3)).alloc (.cells #[.bool false] 4)) := ((Kp.alloc w _ Nu).andAlloc _).andAlloc _
  have x0 : (((w.alloc (.cells #[.int .i64 stop] 3)).alloc (.cells #[.int .i64 ahead] 3)).alloc (.cells #[.bool false] 4)).heap[w.heap.size]? = some (.cells #[.int .i64 stop] 3 (0, 0)) := (Below.heap_alloc _ _ _ (by simp; omega)).trans ((Below.heap_alloc _ _ _ (by simp)).trans (heap_alloc_new w _))
  have x1 : (((w.alloc (.cells #[.int .i64 stop] 3)).alloc (.cells #[.int .i64 ahead] 3)).alloc (.cells #[.bool false] 4)).heap[w.heap.size + 1]? = some (.cells #[.int .i64 ahead] 3 (0, 0)) := (Below.heap_alloc _ _ _ (by simp)).trans (by have := heap_alloc_new (w.alloc (.cells #[.int .i64 stop] 3)) (.cells #[.int .i64 ahead] 3); simpa using this)
  have x2 : (((w.alloc (.cells #[.int .i64 stop] 3)).alloc (.cells #[.int .i64 ahead] 3)).alloc (.cells #[.bool false] 4)).heap[w.heap.size + 1 + 1]? = some (.cells #[.bool false] 4 (0, 0)) := by have := heap_alloc_new ((w.alloc (.cells #[.int .i64 stop] 3)).alloc (.cells #[.int .i64 ahead] 3)) (.cells #[.bool false] 4); simpa using this
  have xs : (((w.alloc (.cells #[.int .i64 stop] 3)).alloc (.cells #[.int .i64 ahead] 3)).alloc (.cells #[.bool false] 4)).heap.size = w.heap.size + 1 + 1 + 1 := by simp
  generalize ((w.alloc (.cells #[.int .i64 stop] 3)).alloc (.cells #[.int .i64 ahead] 3)).alloc (.cells #[.bool false] 4) = w0 at *
  refine ⟨trivial, (callsIn_wide.2 (filled_any w0 v0 v1 S O (HW.out.1.nu k0) (HW.out.2.1.nu k0) HW.out.2.2.1 HW.out.2.2.2)).mono ?_⟩
  rintro e w1 ⟨mb, rb, t, rfl, hmb, hrb, hm1, ⟨vk, vv, hr1⟩, hsz, k1⟩
  have y0 := (k1.block _ (blk_lt x0) (fun h => h)).trans x0
  have y1 := (k1.block _ (blk_lt x1) (fun h => h)).trans x1
  have y2 := (k1.block _ (blk_lt x2) (fun h => h)).trans x2
  have k2 : Kp Nu w1 (((w1.alloc (.cells #[.pointer (some ⟨mb, 0, none⟩)] 22)).alloc (.cells #[.pointer (some ⟨rb, 0, none⟩)] 48)).alloc (.cells #[.int .i64 0] 3)) := ((Kp.alloc w1 _ Nu).andAlloc _).andAlloc _
  have z0 : (((w1.alloc (.cells #[.pointer (some ⟨mb, 0, none⟩)] 22)).alloc (.cells #[.pointer (some ⟨rb, 0, none⟩)] 48)).alloc (.cells #[.int .i64 0] 3)).heap[w1.heap.size]? = some (.cells #[.pointer (some ⟨mb, 0, none⟩)] 22 (0, 0)) := (Below.heap_alloc _ _ _ (by simp; omega)).trans ((Below.heap_alloc _ _ _ (by simp)).trans (heap_alloc_new w1 _))
  have z1 : (((w1.alloc (.cells #[.pointer (some ⟨mb, 0, none⟩)] 22)).alloc (.cells #[.pointer (some ⟨rb, 0, none⟩)] 48)).alloc (.cells #[.int .i64 0] 3)).heap[w1.heap.size + 1]? = some (.cells #[.pointer (some ⟨rb, 0, none⟩)] 48 (0, 0)) := (Below.heap_alloc _ _ _ (by simp)).trans (by have := heap_alloc_new (w1.alloc (.cells #[.pointer (some ⟨mb, 0, none⟩)] 22)) (.cells #[.pointer (some ⟨rb, 0, none⟩)] 48); simpa using this)
  have z2 : (((w1.alloc (.cells #[.pointer (some ⟨mb, 0, none⟩)] 22)).alloc (.cells #[.pointer (some ⟨rb, 0, none⟩)] 48)).alloc (.cells #[.int .i64 0] 3)).heap[w1.heap.size + 1 + 1]? = some (.cells #[.int .i64 0] 3 (0, 0)) := by have := heap_alloc_new ((w1.alloc (.cells #[.pointer (some ⟨mb, 0, none⟩)] 22)).alloc (.cells #[.pointer (some ⟨rb, 0, none⟩)] 48)) (.cells #[.int .i64 0] 3); simpa using this
  obtain ⟨ks, eks⟩ : ∃ ks, t.xs.map Prod.fst = ks := ⟨_, rfl⟩
  have HY : Hid (Sy w.heap.size (w.heap.size + 1) (w.heap.size + 1 + 1) w1.heap.size (w1.heap.size + 1) (w1.heap.size + 1 + 1) mb rb w0.heap.size w1.heap.size vk vv ∧ w.heap.size ≤ w0.heap.size ∧ ks.length ≤ 17592186043904) := hide ⟨⟨by omega, by omega, by omega, hmb, hm1.lt, hrb, blk_lt hr1.blk, fun g hg => ⟨own_low hr1.ok hg, own_lt hr1.ok hg⟩, fun g hg => ⟨own_low hr1.ov hg, own_lt hr1.ov hg⟩, Nat.le_refl _, by omega, by omega⟩, by omega, by have h1 := (keys_len eks).2; have h2 := HW.out.2.2.1; omega⟩
  have HI0 : Hid (∃ t, So (((w1.alloc (.cells #[.pointer (some ⟨mb, 0, none⟩)] 22)).alloc (.cells #[.pointer (some ⟨rb, 0, none⟩)] 48)).alloc (.cells #[.int .i64 0] 3)) w.heap.size (w.heap.size + 1) (w.heap.size + 1 + 1) w1.heap.size (w1.heap.size + 1) (w1.heap.size + 1 + 1) mb rb w0.heap.size vk vv stop ahead (((0 : Nat) : Int) * cnt stop ks.length) t t.xs ∧ t.xs.map Prod.fst = ks ∧ Below w.heap.size w (((w1.alloc (.cells #[.pointer (some ⟨mb, 0, none⟩)] 22)).alloc (.cells #[.pointer (some ⟨rb, 0, none⟩)] 48)).alloc (.cells #[.int .i64 0] 3)) ∧ ([] : List Nat).Nodup ∧ ∀ D ∈ ([] : List Nat), w.heap.size ≤ D ∧ (((w1.alloc (.cells #[.pointer (some ⟨mb, 0, none⟩)] 22)).alloc (.cells #[.pointer (some ⟨rb, 0, none⟩)] 48)).alloc (.cells #[.int .i64 0] 3)).heap[D]? = some (.deferred (some []))) :=
    hide ⟨t, ⟨(k2.block _ (blk_lt y0) (fun h => h)).trans y0, (k2.block _ (blk_lt y1) (fun h => h)).trans y1, (k2.block _ (blk_lt y2) (fun h => h)).trans y2, z0, z1, by rw [show ((0 : Nat) : Int) * cnt stop ks.length = 0 from by simp]; exact z2, hm1.nu k2, hr1.nu k2⟩, eks, ((k0.andNu k1).andNu k2).toBelow, List.nodup_nil, fun D hD => by cases hD⟩
  clear k0 k1 k2 x0 x1 x2 xs y0 y1 y2 z0 z1 z2 hm1 hr1 hsz hmb hrb eks HW
  gi_wp2_with fail
  generalize ((w1.alloc (.cells #[.pointer (some ⟨mb, 0, none⟩)] 22)).alloc (.cells #[.pointer (some ⟨rb, 0, none⟩)] 48)).alloc (.cells #[.int .i64 0] 3) = w2 at *
  obtain ⟨bT, ebT⟩ : ∃ b, w1.heap.size + 1 + 1 = b := ⟨_, rfl⟩
  rw [ebT] at HY HI0 ⊢
  obtain ⟨bR, ebR⟩ : ∃ b, w1.heap.size + 1 = b := ⟨_, rfl⟩
  rw [ebR] at HY HI0 ⊢
  obtain ⟨br, ebr⟩ : ∃ b, w.heap.size + 1 + 1 = b := ⟨_, rfl⟩
  rw [ebr] at HY HI0 ⊢
  obtain ⟨ba, eba⟩ : ∃ b, w.heap.size + 1 = b := ⟨_, rfl⟩
  rw [eba] at HY HI0 ⊢
  obtain ⟨bs, ebs⟩ : ∃ b, w.heap.size = b := ⟨_, rfl⟩
  obtain ⟨bM, ebM⟩ : ∃ b, w1.heap.size = b := ⟨_, rfl⟩
  obtain ⟨B, eB⟩ : ∃ b, w0.heap.size = b := ⟨_, rfl⟩
  have HY2 : Hid (Sy bs ba br bM bR bT mb rb B bM vk vv ∧ w.heap.size ≤ B ∧ ks.length ≤ 17592186043904 ∧ w.heap.size ≤ bs) := hide (by have h := HY.out; rw [eB, ebM] at h; exact ⟨by have h1 := h.1; rw [ebs] at h1; exact h1, h.2.1, h.2.2, by omega⟩)
  have HI1 : Hid (∃ t, So w2 bs ba br bM bR bT mb rb B vk vv stop ahead (((0 : Nat) : Int) * cnt stop ks.length) t t.xs ∧ t.xs.map Prod.fst = ks ∧ Below w.heap.size w w2 ∧ ([] : List Nat).Nodup ∧ ∀ D ∈ ([] : List Nat), w.heap.size ≤ D ∧ w2.heap[D]? = some (.deferred (some []))) := hide (by
    obtain ⟨t, h1, h2⟩ := HI0.out
    refine ⟨t, ?_, h2⟩
    rw [eB, ebM] at h1
    rw [← ebs]
    exact h1)
  clear HY HI0
  rw [ebs, ebM]
  clear ebT ebR ebr eba ebs ebM eB
  refine wpIn_loop (SaI w bs ba br bM bR bT mb rb B vk vv stop ahead ks (cnt stop ks.length)) saM (SaI.of 0 [] (by omega) (by rfl) HI1.out) ?_
  rintro a V ⟨rd, Ls, f, hrd, rfl, hR⟩
  clear HI1
  by_cases hlt : rd < 2
  · have kA := Kp.alloc V (.cells #[.int .i64 0] 3) Nu
    have xA := heap_alloc_new V (.cells #[.int .i64 0] 3)
    obtain ⟨t, hso, hk, hbel, hnd, hLs⟩ := hR.out
    have hb1 := hso.cc (Cc.nu kA)
    have cM := cell1 hb1.m
    have hltI : (rd : Int) < 2 := by omega
    have hld : decide ((rd : Int) < 2) = true := by simpa using hltI
    have HR := hide (And.intro hb1 (And.intro hk (And.intro ((Kp.of_below hbel).andNu kA) (And.intro hnd (And.intro (fun D hD => (hLs D hD).1) (And.intro (fun D hD => (kA.block D (blk_lt (hLs D hD).2) (fun h => h)).trans (hLs D hD).2) (And.intro xA (blk_lt hso.o))))))))
    have HLT := hide hlt
    clear hR hso hk hbel hnd hLs hb1 kA xA hlt
    gi_wp2_with fail
    refine ⟨trivial, (callsIn_wide.2 (all_any _ (some ⟨mb, 0, none⟩))).mono ?_⟩
    generalize V.alloc (.cells #[.int .i64 0] 3) = V4 at *
    obtain ⟨bi, ebi⟩ : ∃ b, V.heap.size = b := ⟨_, rfl⟩
    rw [ebi] at HR ⊢
    clear cM hltI hld
    rintro e w5 ⟨rfl, hb5, k5⟩
    have nf : ∀ W : World, (binOp .eql 27 (.func (.func 82) #[] #[.pointer (some ⟨V4.heap.size, 0, none⟩)]) .nilFunc).run Try.prog W = .ok (.bool false) W := fun W => by rfl
    have SQ : SeqL Try.prog 82 #[.pointer (some ⟨V4.heap.size, 0, none⟩)] (fun x : Int × Int => #[.int .i64 x.1, .int .i64 x.2]) KL (VlM mb) (GnM mb) (MmM mb) (fun ys => ys.map Prod.fst = ks) (fun pre => pre.map Prod.fst <+: ks) w5 := by
      have h := all_l (HR.out.1.mp.nu k5) hb5 (by have h1 := (keys_len HR.out.2.1).2; have h2 := HY2.out.2.2.1; omega)
      rw [HR.out.2.1] at h
      exact h
    have HJ0 : Hid (SaJ w bs ba br bM bR bT bi mb rb B vk vv stop ahead ((rd : Int) * cnt stop ks.length) ks Ls [] w5) := hide ⟨t, by
      have h := (HR.out.1.cc (Cc.nu k5)).sa (bi := bi) (i := 0) ((k5.block _ (blk_lt HR.out.2.2.2.2.2.2.1) (fun h => h)).trans HR.out.2.2.2.2.2.2.1)
      simpa using h, HR.out.2.1, (HR.out.2.2.1.andNu k5).toBelow, by simp, fun D hD => (k5.block D (blk_lt (HR.out.2.2.2.2.2.1 D hD)) (fun h => h)).trans (HR.out.2.2.2.2.2.1 D hD)⟩
    have hs5 : w.heap.size ≤ w5.heap.size := (HR.out.2.2.1.andNu k5).size
    have D5 : ∀ D ∈ Ls, D < w5.heap.size := fun D hD => by have h1 := blk_lt (HR.out.2.2.2.2.2.1 D hD); have h2 := k5.size; omega
    have HX : Hid (Sx bs ba br bM bR bT bi mb rb B bM vk vv) := hide (HY2.out.1.x HR.out.2.2.2.2.2.2.2)
    have HTB : Hid (0 ≤ (rd : Int) * cnt stop ks.length ∧ (rd : Int) * cnt stop ks.length ≤ 17592186043904) := hide (by
      have h1 := cnt_b stop ks.length
      have h2 := HY2.out.2.2.1
      have h3 := HLT.out
      have h4 : rd = 0 ∨ rd = 1 := by omega
      rcases h4 with rfl | rfl <;> simp <;> omega)
    have HNL : Hid (Ls.Nodup ∧ ∀ D ∈ Ls, w.heap.size ≤ D) := hide ⟨HR.out.2.2.2.1, HR.out.2.2.2.2.1⟩
    have H5 := hide (And.intro hs5 D5)
    clear hb5 k5 hs5 D5 HR ebi
    gi_wp2_with fail
    clear nf
    refine range_l (gf := 82) rfl (enters_of Try.func82 (by kernel_rfl) rfl) SQ (Below.refl _ _) (fun _ => rfl)
      (SaJ w bs ba br bM bR bT bi mb rb B vk vv stop ahead ((rd : Int) * cnt stop ks.length) ks Ls) (SaE w bs ba br bM bR bT bi mb rb B vk vv stop ahead ((rd : Int) * cnt stop ks.length) ks Ls 2)
      (SaJ.own H5.out.1 H5.out.2) (fun c => SaE.own H5.out.1 H5.out.2 c) HJ0.out (fun pre W1 h => h.mm HY2.out.2.2.1) (fun pre x W1 h hp hg => (h.gn hp hg).elim)
      (fun x a' V' => FrB bs ba br bM bR bT bi x a' ∧ VlM mb x V') (fun x a' _ X Z row hs hg hr => ⟨hs.1, by obtain ⟨t2, h1, h2⟩ := hs.2; exact ⟨t2, (Cc.grown hg hr).mp h1, h2⟩⟩)
      ?as0 ?bo ?dn ?st
    case as0 =>
      rintro l' pre x V' R hI hv hR
      have HI := hide (And.intro hI hv)
      clear hI hv SQ
      gi_wp2
      exact hR _ _ (kf_nu _ (Kp.refl _ _)) (kc_nu (Kp.refl _ _)) HI.out.1 ⟨FrB.of (by rfl), HI.out.2⟩
    case bo =>
      rintro l' pre x a' V' hl' hq hJ ⟨⟨g, rfl⟩, hv⟩ hp
      exact sall_body HX.out HY2.out.2.1 HY2.out.2.2.1 HTB.out hJ hv hp _
    case dn =>
      rintro D ys V' hD hys hJ hK'
      obtain ⟨t', h1, h2, h3, h4, h5⟩ := hJ
      have HN := hide (sa_next h1 (told_done hys h4) h2 h3 HNL.out.1 HNL.out.2 h5 H5.out.2 hD H5.out.1 hK')
      have wr : wrap64 ((rd : Int) + 1) = (rd : Int) + 1 := by have := HLT.out; unfold wrap64; omega
      clear h1 h2 h3 h4 h5 hys hK' SQ hD HJ0
      gi_wp2_with fail
      refine ⟨SaI.of (rd + 1) (D :: Ls) (by have := HLT.out; omega) (by rfl) HN.out, ?_⟩
      exact mea2 HLT.out
    case st =>
      rintro D c pre V' hD hpre ⟨rfl, t', h1, h2, h3, h4, h5, h6⟩ hK'
      have HN := hide (sa_next h1 (told_stop hpre h4 h5) h2 h3 HNL.out.1 HNL.out.2 h6 H5.out.2 hD H5.out.1 hK')
      have wr : wrap64 ((rd : Int) + 1) = (rd : Int) + 1 := by have := HLT.out; unfold wrap64; omega
      clear h1 h2 h3 h4 h5 h6 hpre hK' SQ hD HJ0
      gi_wp2_with fail
      refine ⟨SaI.of (rd + 1) (D :: Ls) (by have := HLT.out; omega) (by rfl) HN.out, ?_⟩
      exact mea2 HLT.out
  · obtain ⟨t, hso, hk, hbel, hnd, hLs⟩ := hR.out
    have hrI : ¬ (rd : Int) < 2 := by omega
    have hrd' : decide ((rd : Int) < 2) = false := by simpa using hrI
    have er : (rd : Int) = 2 := by omega
    rw [er] at hso
    obtain ⟨N, eN⟩ : ∃ N, ks.length = N := ⟨_, rfl⟩
    have hszN : t.sz = N := by rw [← eN]; exact (keys_len hk).2
    have hN2 : (N : Int) ≤ 17592186043904 := by have := HY2.out.2.2.1; omega
    have hxl : t.xs.length = N := by rw [T.xs_length]; exact hszN
    rw [eN] at hso
    obtain ⟨c, ec⟩ : ∃ c, cnt stop N = c := ⟨_, rfl⟩
    rw [ec] at hso
    have hbr : w.heap.size ≤ br := by have h1 := HY2.out.2.2.2; have h2 := HY2.out.1.sa; have h3 := HY2.out.1.ar; omega
    have cs := cell1 hso.s
    have cR := cell1 hso.d
    have cM := cell1 hso.m
    have cT := cell1 hso.o
    have cr := cell1 hso.r
    have fr_ := free3 hso.r 0
    obtain ⟨ad0, cap0, e0⟩ := own_slice hso.rm.ok
    rw [hxl] at e0
    obtain ⟨_, d1, _⟩ := cell3 hso.rm.blk
    rw [e0] at d1
    have LA := len_any hso.mp
    have LB := len_any (hso.mp.nu (Kp.refl Nu V).drew)
    rw [hszN] at LA LB
    have HR : Hid (∀ Z, Cc (V.setCell ⟨br, 0, none⟩ (.bool true)) Z → Kp (fun k => w.heap.size ≤ k) (V.setCell ⟨br, 0, none⟩ (.bool true)) Z → Z.cell? ⟨br, 0, none⟩ = some (.bool true) ∧ Kp Nu w Z) := hide (fun Z hc hk => by
      refine ⟨cell1 (hc _ _ _ _ (by rw [set3 hso.r]; rfl)), ?_⟩
      exact ((Kp.of_below hbel).andSet ⟨br, 0, none⟩ (.bool true) (.inl hbr)).trans hk (fun i hi e => by have e : w.heap.size ≤ i := e; omega))
    have HL6 : Hid (Ls.Nodup ∧ ∀ D' ∈ Ls, w.heap.size ≤ D' ∧ (V.setCell ⟨br, 0, none⟩ (.bool true)).heap[D']? = some (.deferred (some []))) := hide ⟨hnd, fun D' hD' => ⟨(hLs D' hD').1, (Below.heap_setCell _ ⟨br, 0, none⟩ _ D' (fun e => by have e : D' = br := e; have h := (hLs D' hD').2; rw [e, hso.r] at h; cases h)).trans (hLs D' hD').2⟩⟩
    have HC := hide ec
    have b2 : ((N : Int) == (N : Int)) = true := by simp
    clear hR hso hk hbel hnd hLs er eN hszN hxl ec e0 HY2 hbr hrd hlt
    by_cases hin : 0 ≤ stop ∧ stop < (N : Int)
    · obtain ⟨i1, i2⟩ := hin
      have ec : c = stop + 1 := by rw [← HC.out]; unfold cnt; rw [if_pos ⟨i1, i2⟩]
      subst ec
      have j1 : decide (stop ≥ 0) = true := by simpa using i1
      have j2 : decide (stop < (N : Int)) = true := by simpa using i2
      have j3 : wrap64 (stop + 1) = stop + 1 := by unfold wrap64; omega
      have j4 : wrap64 (2 * (stop + 1)) = 2 * (stop + 1) := by unfold wrap64; omega
      have j4' : IntKind.i64.wrap (2 * (stop + 1)) = 2 * (stop + 1) := by rw [IntKind.wrap_i64]; omega
      have b1 : ((2 * (stop + 1)) == (2 * (stop + 1))) = true := by simp
      gi_wp2_with fail
      refine region_tight ?_
      gi_region_with_o (first
        | (refine ⟨trivial, (callsIn_wide.2 LB).mono ?_⟩; rintro e w' ⟨rfl, hw⟩; obtain rfl := hw.symm)
        | (refine ⟨trivial, (callsIn_wide.2 LA).mono ?_⟩; rintro e w' ⟨rfl, hw⟩; obtain rfl := hw.symm))
      all_goals (try gi_wp2_with fail)
      all_goals refine leaves_all Ls _ HL6.out.1 HL6.out.2 (fun Z hc hk => ?_)
      all_goals obtain ⟨z1, z2⟩ := HR.out Z hc ⟨hk.os, hk.tape, hk.output, hk.size, hk.block⟩
      all_goals refine ⟨.bool true, ?_, rfl, z2⟩
      all_goals simp [results, Try.results6, go_sem, z1]
    · have ec : c = (N : Int) := by rw [← HC.out]; unfold cnt; rw [if_neg hin]
      subst ec
      have j4 : wrap64 (2 * (N : Int)) = 2 * (N : Int) := by unfold wrap64; omega
      have j4' : IntKind.i64.wrap (2 * (N : Int)) = 2 * (N : Int) := by rw [IntKind.wrap_i64]; omega
      have b1 : ((2 * (N : Int)) == (2 * (N : Int))) = true := by simp
      by_cases i1 : 0 ≤ stop
      · have i2 : ¬ stop < (N : Int) := fun h => hin ⟨i1, h⟩
        have j1 : decide (stop ≥ 0) = true := by simpa using i1
        have j2 : decide (stop < (N : Int)) = false := by simpa using i2
        clear hin
        gi_wp2_with fail
        refine region_tight ?_
        gi_region_with_o (first
          | (refine ⟨trivial, (callsIn_wide.2 LB).mono ?_⟩; rintro e w' ⟨rfl, hw⟩; obtain rfl := hw.symm)
          | (refine ⟨trivial, (callsIn_wide.2 LA).mono ?_⟩; rintro e w' ⟨rfl, hw⟩; obtain rfl := hw.symm))
        all_goals (try gi_wp2_with fail)
        all_goals refine leaves_all Ls _ HL6.out.1 HL6.out.2 (fun Z hc hk => ?_)
        all_goals obtain ⟨z1, z2⟩ := HR.out Z hc ⟨hk.os, hk.tape, hk.output, hk.size, hk.block⟩
        all_goals refine ⟨.bool true, ?_, rfl, z2⟩
        all_goals simp [results, Try.results6, go_sem, z1]
      · have j1 : decide (stop ≥ 0) = false := by simpa using i1
        clear hin
        gi_wp2_with fail
        refine region_tight ?_
        gi_region_with_o (first
          | (refine ⟨trivial, (callsIn_wide.2 LB).mono ?_⟩; rintro e w' ⟨rfl, hw⟩; obtain rfl := hw.symm)
          | (refine ⟨trivial, (callsIn_wide.2 LA).mono ?_⟩; rintro e w' ⟨rfl, hw⟩; obtain rfl := hw.symm))
        all_goals (try gi_wp2_with fail)
        all_goals refine leaves_all Ls _ HL6.out.1 HL6.out.2 (fun Z hc hk => ?_)
        all_goals obtain ⟨z1, z2⟩ := HR.out Z hc ⟨hk.os, hk.tape, hk.output, hk.size, hk.block⟩
        all_goals refine ⟨.bool true, ?_, rfl, z2⟩
        all_goals simp [results, Try.results6, go_sem, z1]
end Go.Proofs.Ytchealdgncgjoaa.StI
