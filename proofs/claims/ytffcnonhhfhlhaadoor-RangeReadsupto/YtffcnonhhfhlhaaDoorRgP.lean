import Derived.Test.YtffcnonhhfhlhaaDoorRgM
import Derived.Test.YtffcnonhhfhlhaaDoorRgN11
import Derived.Test.YtffcnonhhfhlhaaDoorRgN10
import Derived.Test.YtffcnonhhfhlhaaDoorRgN01
namespace Go.Proofs.YtffcnonhhfhlhaaDoor.Rg
open Go.RowKit Go.Shelf Go.Sort
open Go.Proofs.YtffcnonhhfhlhaaDoor.It
attribute [local go_sem] Oper.semAt_some
set_option linter.unusedVariables false

set_option maxRecDepth 100000 in
set_option maxHeartbeats 2000000 in
theorem assign_00 {B b : Nat} {w : World} {lim : Int} {v : Value} {L : List Sg} (h : Tb B w b lim v L) (lo hi o : Int) (k0 : 0 ≤ lo) (hlh : lo ≤ hi) (k1 : hi < 18446744073709551616) (o0 : 0 ≤ o) (ho : o < 16) (e1 : ¬ 0 < lo) (e2 : ¬ hi < 18446744073709551615) (hfit : (L.length : Int) + costB L lo hi o ≤ lim) (hBw : B ≤ w.heap.size) :
    Calls Tryd.prog 16 #[.pointer (some ⟨b, 0, none⟩), .int .u64 lo, .int .u64 hi, .int .u8 o] w fun e w' => e = .returned (.int .i64 0) ∧ ∃ v', Tb B w' b lim v' (asg L lo hi o) ∧ Kp (fun k => k = b) w w' := by
  have mixed : Tryd.prog.follows .mixedOrders = true := by kernel_rfl
  obtain ⟨i0, hi0, hz0, hz1, hz2⟩ := info_parts info40
  have CO := cost_ok h lo hi o k0 hlh k1 ho
  have LE := fun W (k : Kp Nu w W) => len_any (h.nu k)
  have C0 := fun W (k : Kp Nu w W) => (h.nu k).c0
  obtain ⟨F1, F2, F3⟩ := asg_facts h.tab k0 hlh k1 o0 ho
  have cr := cost_range h.tab o k0 hlh k1
  have hl : (L.length : Int) ≤ 8192 := by have := h.len; have := h.lim1; omega
  have hl1 := h.lim1
  have hne := h.tab.ne
  obtain ⟨N, hN⟩ : ∃ N, L.length = N := ⟨_, rfl⟩
  obtain ⟨C, hC⟩ : ∃ C, costB L lo hi o = C := ⟨_, rfl⟩
  rw [hN] at LE cr hl hfit F3 hne
  rw [hC] at CO cr hfit F3
  have HT := hide h
  have HF := hide (And.intro F1 F3)
  have HN := hide hN
  have hw1 : IntKind.i64.wrap ((N : Int) + C) = (N : Int) + C := by rw [IntKind.wrap_i64]; omega
  have hle : ¬ (N : Int) + C > lim := by omega
  obtain ⟨m, hm⟩ : ∃ m : Nat, (N : Int) + C = (m : Int) := ⟨((N : Int) + C).toNat, by omega⟩
  have hm2 : m ≤ 8192 := by omega
  clear F1 F2 F3 h hN hC
  refine (callsIn_wide (n := 4)).1 ?_
  refine callsIn_of_wp_marks Tryd.func16 rfl trivial ?_ rfl
  simp only [Tryd.ntmps16, List.size_toArray, List.length_cons, List.length_nil, Nat.reduceAdd, Nat.reduceSub, Array.replicate_succ, Array.replicate_zero, List.push_toArray, List.append_toArray, List.nil_append, List.cons_append]
  gi_wp2_with fail
  refine ⟨trivial, (callsIn_wide.2 CO).mono ?_⟩
  rintro e w1 ⟨rfl, hk1⟩
  clear CO
  gi_wp2_with fail
  refine wp_calm (wpIn_wide.2 ?_)
  have LE1 := LE w1.drew hk1.drew
  have c0 := C0 w1.drew hk1.drew
  rw [hm] at hw1 hle
  have hle2 : decide (lim < (m : Int)) = false := decide_eq_false (by omega)
  go_region_held (fun W => W.cell? ⟨b, 0, none⟩ = some (.int .i64 lim)) (first | exact c0) (first | (go_at_call 22; refine LE1.mono ?_; rintro e w' ⟨rfl, hw'⟩; obtain rfl := hw'.symm; clear hw'))
  simp only [Calm]
  gi_wp2_with fail
  refine ⟨trivial, (callsIn_wide.2 LE1).mono ?_⟩
  rintro e w' ⟨rfl, hw'⟩
  obtain rfl := hw'.symm
  clear hw' LE1 LE C0 c0
  have hk2 := hk1.drew
  generalize w1.drew = w2 at hk2 ⊢
  have e1' : ¬ lo > 0 := by omega
  have e1d : decide (0 < lo) = false := decide_eq_false (by omega)
  gi_wp2_with (first
    | (gi_at_make; refine wpListIn_make_own _ rfl _ _ 22 rfl w.heap.size 26 i0 (.agg #[.int .u64 0, .int .u64 0, .int .u8 0]) 3 Tryd.underlying22 hi0 hz0 hz1 .i64 .i64 _ m rfl rfl (by rfl) (by rw [hz2]; omega) (by unfold maxLen; omega) hk2.size ?_; intro w3 hrow3 hg3)
    | fail)

  have k4 : Kp Nu w (w3.alloc (.cells #[.slice (some ⟨w2.heap.size, 0, none⟩) 0 m] 22)) := (hk2.andNu ((Kp.of_grown hg3).mono (fun i _ h => by cases h))).andAlloc _
  have b1 : (w3.alloc (.cells #[.slice (some ⟨w2.heap.size, 0, none⟩) 0 m] 22)).heap[w3.heap.size]? = some (.cells #[.slice (some ⟨w2.heap.size, 0, none⟩) 0 m] 22 (0, 0)) := heap_alloc_new w3 _
  have b2 : (w3.alloc (.cells #[.slice (some ⟨w2.heap.size, 0, none⟩) 0 m] 22)).ownsRow w.heap.size 26 3 (.slice (some ⟨w2.heap.size, 0, none⟩) 0 m) (lays [] (lowP L lo)).length (cells (lays [] (lowP L lo))) := by
    have e : lays [] (lowP L lo) = [] := by unfold lowP; rw [if_neg (by omega)]; rfl
    rw [e]
    exact hrow3.alloc _
  have hBX : w.heap.size ≤ w3.heap.size := Nat.le_trans hk2.size hg3.size
  have hB1 : Below w.heap.size w (w3.alloc (.cells #[.slice (some ⟨w2.heap.size, 0, none⟩) 0 m] 22)) := k4.toBelow
  have hrw : ∃ r, v.ownBlock = some r ∧ r < w.heap.size := by
    obtain ⟨r, cap, e, _⟩ := HT.out.row
    have e2 : v.ownBlock = some r := by rw [e]; rfl
    exact ⟨r, e2, own_lt HT.out.own e2⟩
  obtain ⟨V, hV⟩ : ∃ V, w3.alloc (.cells #[.slice (some ⟨w2.heap.size, 0, none⟩) 0 m] 22) = V := ⟨_, rfl⟩
  rw [hV] at b1 b2 hB1 ⊢
  generalize w2.heap.size = R0 at b1 b2 ⊢
  generalize w3.heap.size = BX at b1 hBX ⊢
  clear hrow3 hg3 hk2 k4 hV
  have hlp := (low_facts HT.out.tab k0 (by omega : lo < 18446744073709551616)).2.2.1
  have hll : (lays [] (lowP L lo)).length ≤ 8192 := by
    rw [lays_nil_id hlp]
    have h1 := HN.out
    have h2 := low_len L lo
    omega
  have LAY := lay_any w.heap.size V (.slice (some ⟨R0, 0, none⟩) 0 m) (lays [] (lowP L lo)) ⟨lo, hi, o⟩ (by omega) b2 hB1.size
  have hST : Hid (∀ V1 u', Kp (fun k => some k = (Value.slice (some ⟨R0, 0, none⟩) 0 m).ownBlock) V V1 → V1.ownsRow w.heap.size 26 3 u' (lay (lays [] (lowP L lo)) ⟨lo, hi, o⟩).length (cells (lay (lays [] (lowP L lo)) ⟨lo, hi, o⟩)) → V1.heap[BX]? = some (.cells #[.slice (some ⟨R0, 0, none⟩) 0 m] 22 (0, 0)) ∧ (V1.setCell ⟨BX, 0, none⟩ u').heap[BX]? = some (.cells #[u'] 22 (0, 0)) ∧ (V1.setCell ⟨BX, 0, none⟩ u').ownsRow w.heap.size 26 3 u' (lay (lays [] (lowP L lo)) ⟨lo, hi, o⟩).length (cells (lay (lays [] (lowP L lo)) ⟨lo, hi, o⟩)) ∧ KeepsFrom w.heap.size V (V1.setCell ⟨BX, 0, none⟩ u') ∧ Below w.heap.size w (V1.setCell ⟨BX, 0, none⟩ u')) := fun V1 u' k ho => mid_step b1 b2 hBX k ho hB1
  have c1 := cell1 b1
  unfold enc at LAY
  clear b1 b2 hlp
  gi_wp2_with fail
  refine ⟨trivial, (callsIn_wide.2 LAY).mono ?_⟩
  rintro e V1 ⟨u', rfl, ho', hk'⟩
  obtain ⟨q1, q2, q3, q4, q5⟩ := hST.out V1 u' hk' ho'
  obtain ⟨ad2, cp2, hu'⟩ := own_slice ho'
  have hll2 := lay_len (lays [] (lowP L lo)) ⟨lo, hi, o⟩
  have hll3 : (lay (lays [] (lowP L lo)) ⟨lo, hi, o⟩).length ≤ 8193 := by split at hll2 <;> omega
  obtain ⟨n2, hn2⟩ : ∃ n2, (lay (lays [] (lowP L lo)) ⟨lo, hi, o⟩).length = n2 := ⟨_, rfl⟩
  rw [hn2] at hu'
  have d1 := cell1 q1
  have d2 := free3 q1 0
  have HQ := hide (And.intro q2 (And.intro q3 (And.intro q4 q5)))
  subst hu'
  clear q1 q2 q3 q4 q5 hk' ho' LAY hST hll2 hn2 c1 hll
  obtain ⟨q2, q3, q4, q5⟩ := HQ.out
  have b1 := q2
  have b2 : (V1.setCell ⟨BX, 0, none⟩ (.slice ad2 n2 cp2)).ownsRow w.heap.size 26 3 (.slice ad2 n2 cp2) (lays (lay (lays [] (lowP L lo)) ⟨lo, hi, o⟩) (highP L hi)).length (cells (lays (lay (lays [] (lowP L lo)) ⟨lo, hi, o⟩) (highP L hi))) := by
    have e : highP L hi = [] := by unfold highP; rw [if_neg (by omega)]
    rw [e, lays_nil]
    exact q3
  have hB2 := q5
  clear q2 q3 q4 q5 HQ
  have hasg : asg L lo hi o = lays (lay (lays [] (lowP L lo)) ⟨lo, hi, o⟩) (highP L hi) := rfl
  rw [← hasg] at b2
  have hfit2 : ((asg L lo hi o).length : Int) ≤ lim := by have := HF.out.2; omega
  obtain ⟨FT, FK⟩ := fin_tb HT.out hB2 b2 hBw HF.out.1 hfit2
  have HFT := hide (And.intro FT FK)
  have hb3 := (hB2.block b (blk_lt HT.out.blk)).trans HT.out.blk
  have s3 := free3 hb3 1
  have s4 : (V1.setCell ⟨BX, 0, none⟩ (.slice ad2 n2 cp2)).cell? ⟨b, 1, none⟩ = some v := by simp [World.cell?, hb3]
  obtain ⟨ad3, cp3, hu3⟩ := own_slice b2
  obtain ⟨rv, capv, hv, _⟩ := HT.out.row
  rw [hv] at s4
  have c3 := cell1 b1
  clear hu3
  clear b2 FT FK hb3 hasg
  gi_wp2
  obtain ⟨FT, FK⟩ := HFT.out
  exact ⟨_, results_tmp rfl _ _ _, rfl, _, FT, FK⟩
end Go.Proofs.YtffcnonhhfhlhaaDoor.Rg
namespace Go.Proofs.YtffcnonhhfhlhaaDoor.Rg
open Go.RowKit Go.Shelf Go.Sort
open Go.Proofs.YtffcnonhhfhlhaaDoor.It
set_option linter.unusedVariables false

section
variable {B b : Nat} {w : World} {lim : Int} {v : Value} {L : List Sg}
/-- a range and a host that Assign takes, with room for it -/
theorem assign_ok (h : Tb B w b lim v L) (lo hi o : Int) (k0 : 0 ≤ lo) (hlh : lo ≤ hi) (k1 : hi < 18446744073709551616) (o0 : 0 ≤ o) (ho : o < 16) (hfit : (L.length : Int) + costB L lo hi o ≤ lim) (hBw : B ≤ w.heap.size) :
    Calls Tryd.prog 16 #[.pointer (some ⟨b, 0, none⟩), .int .u64 lo, .int .u64 hi, .int .u8 o] w fun e w' => e = .returned (.int .i64 0) ∧ ∃ v', Tb B w' b lim v' (asg L lo hi o) ∧ Kp (fun k => k = b) w w' := by
  by_cases e1 : 0 < lo <;> by_cases e2 : hi < 18446744073709551615
  · exact assign_11 h lo hi o k0 hlh k1 o0 ho e1 e2 hfit hBw
  · exact assign_10 h lo hi o k0 hlh k1 o0 ho e1 e2 hfit hBw
  · exact assign_01 h lo hi o k0 hlh k1 o0 ho e1 e2 hfit hBw
  · exact assign_00 h lo hi o k0 hlh k1 o0 ho e1 e2 hfit hBw

set_option maxRecDepth 100000 in
set_option maxHeartbeats 1000000 in
theorem assign_full (h : Tb B w b lim v L) (lo hi o : Int) (k0 : 0 ≤ lo) (hlh : lo ≤ hi) (k1 : hi < 18446744073709551616) (ho : o < 16) (hfit : lim < (L.length : Int) + costB L lo hi o) :
    Calls Tryd.prog 16 #[.pointer (some ⟨b, 0, none⟩), .int .u64 lo, .int .u64 hi, .int .u8 o] w fun e w' => e = .returned (.int .i64 61) ∧ Kp Nu w w' := by
  have mixed : Tryd.prog.follows .mixedOrders = true := by kernel_rfl
  have CO := cost_ok h lo hi o k0 hlh k1 ho
  have LE := fun W (k : Kp Nu w W) => len_any (h.nu k)
  have C0 := fun W (k : Kp Nu w W) => (h.nu k).c0
  have cr := cost_range h.tab o k0 hlh k1
  have hl : (L.length : Int) ≤ 8192 := by have := h.len; have := h.lim1; omega
  generalize costB L lo hi o = C at *
  generalize L.length = N at *
  have hw1 : IntKind.i64.wrap ((N : Int) + C) = (N : Int) + C := by rw [IntKind.wrap_i64]; omega
  obtain ⟨m, hm⟩ : ∃ m : Nat, (N : Int) + C = (m : Int) := ⟨((N : Int) + C).toNat, by omega⟩
  rw [hm] at hw1
  have hle2 : decide (lim < (m : Int)) = true := decide_eq_true (by omega)
  clear h
  go_enter Tryd.func16, Tryd.ntmps16
  go_wp2_with fail
  refine CO.mono ?_
  rintro e w1 ⟨rfl, hk1⟩
  clear CO
  go_wp2_with fail
  have LE1 := LE w1.drew hk1.drew
  have c0 := C0 w1.drew hk1.drew
  go_region_held (fun W => W.cell? ⟨b, 0, none⟩ = some (.int .i64 lim)) (first | exact c0) (first | (go_at_call 22; refine LE1.mono ?_; rintro e w' ⟨rfl, hw'⟩; obtain rfl := hw'.symm; clear hw'))
  go_wp2
  go_ret
  exact ⟨rfl, hk1.drew⟩
set_option maxRecDepth 100000 in
set_option maxHeartbeats 1000000 in
theorem assign_bad (h : Tb B w b lim v L) (lo hi o : Int) (hlh : hi < lo) :
    Calls Tryd.prog 16 #[.pointer (some ⟨b, 0, none⟩), .int .u64 lo, .int .u64 hi, .int .u8 o] w fun e w' => e = .returned (.int .i64 60) ∧ w' = w := by
  have CO := cost_bad h lo hi o hlh
  clear h
  go_enter Tryd.func16, Tryd.ntmps16
  go_wp2_with fail
  refine CO.mono ?_
  rintro e w1 ⟨rfl, hw1⟩
  obtain rfl := hw1.symm
  go_wp2
  go_ret
  exact ⟨rfl, rfl⟩
set_option maxRecDepth 100000 in
set_option maxHeartbeats 1000000 in
theorem assign_arg (h : Tb B w b lim v L) (lo hi o : Int) (hlh : lo ≤ hi) (ho : ¬ o < 16) :
    Calls Tryd.prog 16 #[.pointer (some ⟨b, 0, none⟩), .int .u64 lo, .int .u64 hi, .int .u8 o] w fun e w' => e = .returned (.int .i64 2) ∧ w' = w := by
  have CO := cost_arg h lo hi o hlh ho
  clear h
  go_enter Tryd.func16, Tryd.ntmps16
  go_wp2_with fail
  refine CO.mono ?_
  rintro e w1 ⟨rfl, hw1⟩
  obtain rfl := hw1.symm
  go_wp2
  go_ret
  exact ⟨rfl, rfl⟩
end
end Go.Proofs.YtffcnonhhfhlhaaDoor.Rg
namespace Go.Proofs.YtffcnonhhfhlhaaDoor.Rg
open Go.RowKit Go.Shelf Go.Sort
open Go.Proofs.YtffcnonhhfhlhaaDoor.It
set_option linter.unusedVariables false

set_option maxRecDepth 100000 in
set_option maxHeartbeats 1000000 in
theorem follows_nil (w : World) (ad : Option Addr) (cap : Nat) (s : Sg) (hs : s.lo = 0) :
    Calls Tryd.prog 100 #[enc s, .slice ad 0 cap] w fun e w' => e = .returned (.bool true) ∧ Kp Nu w w' := by
  have mixed : Tryd.prog.follows .mixedOrders = true := by kernel_rfl
  have h1 : (s.lo == 0) = true := by simp [hs]
  unfold enc
  go_enter Tryd.func100, Tryd.ntmps100
  go_wp2
  go_ret
  exact ⟨rfl, Kp.alloc w _ Nu⟩
set_option maxRecDepth 100000 in
set_option maxHeartbeats 1000000 in
theorem follows_snoc (w : World) (base : Nat) (u : Value) (A : List Sg) (t s : Sg) (hown : w.ownsRow base 26 3 u (A.length + 1) (cells (A ++ [t]))) (h0 : 0 ≤ t.hi) (h1 : t.hi < 18446744073709551615) (hs : s.lo = t.hi + 1) (hA : A.length + 1 ≤ 20000) :
    Calls Tryd.prog 100 #[enc s, u] w fun e w' => e = .returned (.bool true) ∧ Kp Nu w w' := by
  have mixed : Tryd.prog.follows .mixedOrders = true := by kernel_rfl
  have ht : (A ++ [t])[A.length]? = some t := by simp
  have hl : (A ++ [t]).length = A.length + 1 := by simp
  have hown2 : w.ownsRow base 26 3 u (A ++ [t]).length (cells (A ++ [t])) := by rw [hl]; exact hown
  obtain ⟨r, cap, hu, x0, x1, x2⟩ := row_at hown2 ht
  rw [hl] at hu
  have hrlt : r < w.heap.size := own_lt hown (by rw [hu]; rfl)
  have y1 : (w.alloc (.cells #[.int .u64 s.lo, .int .u64 s.hi, .int .u8 s.h] 26)).cell? ⟨r, A.length * 3 + 1, none⟩ = some (.int .u64 t.hi) := (World.cell?_of_block (Below.heap_alloc w _ r hrlt)).trans x1
  have g1 : s.lo > 0 := by omega
  have g0 : decide (0 < s.lo) = true := decide_eq_true g1
  have g2 : IntKind.u64.wrap (s.lo - 1) = s.lo - 1 := by rw [IntKind.wrap_u64]; omega
  have g3 : (s.lo - 1 == t.hi) = true := by simp; omega
  clear hs h0 h1
  generalize A.length = N at *
  subst hu
  clear hown hown2 x0 x1 x2 ht hl
  unfold enc
  go_enter Tryd.func100, Tryd.ntmps100
  go_wp2_with fail
  go_region
  go_wp2
  go_ret
  exact ⟨by simp, (Kp.alloc w _ Nu).drew⟩

set_option maxRecDepth 100000 in
set_option maxHeartbeats 1000000 in
theorem fault_ok (w : World) (u : Value) (s : Sg) (hF : ∀ W, Kp Nu w W → Calls Tryd.prog 100 #[enc s, u] W fun e w' => e = .returned (.bool true) ∧ Kp Nu W w') (hu : ∃ ad n cap, u = .slice ad n cap) (hs : s.lo ≤ s.hi) (hh : s.h < 16) :
    Calls Tryd.prog 79 #[enc s, u] w fun e w' => e = .returned (.int .i64 0) ∧ Kp Nu w w' := by
  obtain ⟨ad, n, cap, rfl⟩ := hu
  have KA := Kp.alloc w (.cells #[.int .u64 s.lo, .int .u64 s.hi, .int .u8 s.h] 26) Nu
  have FO := hF _ KA
  have HB : ∀ W, Kp Nu (w.alloc (.cells #[.int .u64 s.lo, .int .u64 s.hi, .int .u8 s.h] 26)) W → W.cell? ⟨w.heap.size, 0, none⟩ = some (.int .u64 s.lo) ∧ W.cell? ⟨w.heap.size, 1, none⟩ = some (.int .u64 s.hi) ∧ W.cell? ⟨w.heap.size, 2, none⟩ = some (.int .u8 s.h) := fun W k => cell3 (new_at w _ k)
  have hgt : ¬ s.lo > s.hi := by omega
  have IH := fun W => isHost_any s.h W
  rw [decide_eq_true hh] at IH
  unfold enc at FO ⊢
  clear hF
  go_enter Tryd.func79, Tryd.ntmps79
  go_wp2_with fail
  refine FO.mono ?_; rintro e w2 ⟨rfl, hk2⟩
  obtain ⟨a0, a1, a2⟩ := HB _ hk2
  clear FO HB
  go_wp2_with fail
  refine (IH _).mono ?_; rintro e w3 ⟨rfl, hw3⟩
  obtain rfl := hw3.symm
  go_wp2
  go_ret
  exact ⟨rfl, KA.andNu hk2⟩

set_option maxHeartbeats 400000 in
theorem limit_ok (n : Int) (w : World) (h1 : 1 ≤ n) (h2 : n ≤ 8192) : Calls Tryd.prog 63 #[.int .i64 n] w fun e w' => e = .returned (.bool true) ∧ w' = w := by
  have g1 : n ≥ 1 := h1
  go_enter Tryd.func63, Tryd.ntmps63
  go_wp2
  go_ret
  exact ⟨by simp, rfl⟩
set_option maxHeartbeats 400000 in
theorem limit_bad (n : Int) (w : World) (h : ¬ (1 ≤ n ∧ n ≤ 8192)) : Calls Tryd.prog 63 #[.int .i64 n] w fun e w' => e = .returned (.bool false) ∧ w' = w := by
  by_cases h1 : 1 ≤ n
  · have g1 : n ≥ 1 := h1
    have g2 : ¬ n ≤ 8192 := by omega
    have g3 : decide (n ≤ 8192) = false := decide_eq_false g2
    go_enter Tryd.func63, Tryd.ntmps63
    go_wp2
    go_ret
    exact ⟨by simp, rfl⟩
  · have g1 : ¬ n ≥ 1 := h1
    go_enter Tryd.func63, Tryd.ntmps63
    go_wp2
    go_ret
    exact ⟨by simp, rfl⟩

/-- the last of what has been laid ends where the next begins -/
theorem cov_last : ∀ {A : List Sg} {a m : Int} {t : Sg}, Cov a (A ++ [t]) m → t.hi + 1 = m
  | [], a, m, t, h => h.2.2
  | s :: A, a, m, t, h => cov_last (A := A) h.2.2
theorem cov_take : ∀ {M : List Sg} {a b : Int} {k : Nat} {s : Sg}, Cov a M b → M[k]? = some s → Cov a (M.take k) s.lo ∧ s.lo ≤ s.hi ∧ s.hi < b
  | [], a, b, k, s, h, hs => by simp at hs
  | t :: M, a, b, 0, s, h, hs => by
    simp at hs; subst hs
    have := cov_le h.2.2
    exact ⟨h.1.symm, by rw [h.1]; exact h.2.1, by omega⟩
  | t :: M, a, b, k + 1, s, h, hs => by
    obtain ⟨h1, h2, h3⟩ := cov_take (k := k) h.2.2 (by simpa using hs)
    exact ⟨⟨h.1, h.2.1, h1⟩, h2, h3⟩
end Go.Proofs.YtffcnonhhfhlhaaDoor.Rg
