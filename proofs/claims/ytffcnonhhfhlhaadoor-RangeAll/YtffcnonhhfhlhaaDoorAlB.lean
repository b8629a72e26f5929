import Derived.Test.YtffcnonhhfhlhaaDoorAlA
import Derived.Test.YtffcnonhhfhlhaaDoorRfI
import Derived.Test.YtffcnonhhfhlhaaDoorWkE
namespace Go.Proofs.YtffcnonhhfhlhaaDoor.Rg
open Go.RowKit Go.Shelf Go.Sort
open Go.Proofs.YtffcnonhhfhlhaaDoor.It
open Go.BigFrame
set_option linter.unusedVariables false
set_option maxHeartbeats 1000000 in
theorem owns_bad {B b : Nat} {w : World} {lim : Int} {v : Value} {L : List Sg} (h : Tb B w b lim v L) (lo hi o : Int) (hlh : hi < lo) :
    Calls Tryd.prog 21 #[.pointer (some ⟨b, 0, none⟩), .int .u64 lo, .int .u64 hi, .int .u8 o] w fun e w' => e = .returned (.bool false) ∧ Kp Nu w w' := by
  have KA := (Kp.alloc w (.cells #[.int .u8 o] 24) Nu).andAlloc (.cells #[.bool false] 4)
  have z1 : ((w.alloc (.cells #[.int .u8 o] 24)).alloc (.cells #[.bool false] 4)).heap[w.heap.size + 1]? = some (.cells #[.bool false] 4 (0, 0)) := by
    have := heap_alloc_new (w.alloc (.cells #[.int .u8 o] 24)) (.cells #[.bool false] 4)
    rwa [World.size_alloc] at this
  have MA := made_any (h.nu KA)
  have hgd : decide (hi < lo) = true := decide_eq_true hlh
  have hgt : lo > hi := hlh
  have c1 := cell1 z1
  have f1 := free3 z1 0
  have HK := hide KA
  clear h z1 KA
  go_enter Tryd.func21, Tryd.ntmps21
  go_wp2_with (go_at_call 50; refine MA.mono ?_; rintro e w' ⟨rfl, rfl⟩)
  refine bodyPost_ret (v := .bool false) (by simp [results, Tryd.results21, go_sem, c1]) rfl ?_
  exact ⟨rfl, HK.out⟩
theorem refOwns_bad (w : World) (u : Value) (L : List Sg) (lim : Int) (hrs : Rs w u L) (lo hi o : Int) (hlh : hi < lo) :
    Calls Tryd.prog 86 #[.agg #[.int .i64 lim, u], .int .u64 lo, .int .u64 hi, .int .u8 o] w fun e w' => e = .returned (.bool false) ∧ Kp Nu w w' := by
  obtain ⟨rr, off, cap, hu, hc⟩ := hrs
  have hgt : lo > hi := hlh
  subst hu
  clear hc
  go_enter Tryd.func86, Tryd.ntmps86
  go_wp2
  go_ret
  exact ⟨rfl, (Kp.refl _ _).andAlloc _⟩
/-- is all of a range a host's, in any order of its ends -/
def ownsA (L : List Sg) (lo hi o : Int) : Bool := if lo ≤ hi then ownsB L lo hi o else false
theorem owns_all {B b : Nat} {w : World} {lim : Int} {v : Value} {L : List Sg} (h : Tb B w b lim v L) (s : Sp) (f : SpB s) :
    Calls Tryd.prog 21 #[.pointer (some ⟨b, 0, none⟩), .int .u64 s.lo, .int .u64 s.hi, .int .u8 s.h] w fun e w' => e = .returned (.bool (ownsA L s.lo s.hi s.h)) ∧ Kp Nu w w' := by
  unfold ownsA
  by_cases hlh : s.lo ≤ s.hi
  · rw [if_pos hlh]; exact owns_any h _ _ _ f.1 hlh f.2.2.2.1
  · rw [if_neg hlh]; exact owns_bad h _ _ _ (by omega)
theorem refOwns_all (w : World) (u : Value) (L : List Sg) (lim : Int) (hrs : Rs w u L) (hT : Tab L) (hl : L.length ≤ 8192) (s : Sp) :
    Calls Tryd.prog 86 #[.agg #[.int .i64 lim, u], .int .u64 s.lo, .int .u64 s.hi, .int .u8 s.h] w fun e w' => e = .returned (.bool (ownsA L s.lo s.hi s.h)) ∧ Kp Nu w w' := by
  unfold ownsA
  by_cases hlh : s.lo ≤ s.hi
  · rw [if_pos hlh]; exact refOwns_any w u L lim hrs hT hl _ _ _ hlh
  · rw [if_neg hlh]; exact refOwns_bad w u L lim hrs _ _ _ (by omega)
set_option maxRecDepth 100000 in
set_option maxHeartbeats 4000000 in
theorem looks_any {B b : Nat} {w : World} {lim : Int} {v : Value} {L : List Sg} (h : Tb B w b lim v L) (hp : PowB w.heap.size w) (rv : Value) (hrs : Rs w rv L) (s : Sp) (f : SpB s) :
    Calls Tryd.prog 70 #[.pointer (some ⟨b, 0, none⟩), .agg #[.int .i64 lim, rv], .agg #[.int .i64 s.kind, .int .u64 s.lo, .int .u64 s.hi, .int .u8 s.h]] w fun e w' => e = .returned (.bool true) ∧ Kp Nu w w' := by
  have mixed : Tryd.prog.follows .mixedOrders = true := by kernel_rfl
  have hM : L.length ≤ 8192 := by have := h.len; have := h.lim1; omega
  obtain ⟨w1, hw1⟩ : ∃ w1, (w.alloc (.cells #[.int .i64 lim, rv] 29)).alloc (.cells #[.int .i64 s.kind, .int .u64 s.lo, .int .u64 s.hi, .int .u8 s.h] 36) = w1 := ⟨_, rfl⟩
  obtain ⟨x0, x1, k1⟩ := two_al w #[.int .i64 lim, rv] #[.int .i64 s.kind, .int .u64 s.lo, .int .u64 s.hi, .int .u8 s.h] 29 36
  rw [hw1] at x0 x1 k1
  obtain ⟨qr, qo, qc, erv, _⟩ := id hrs
  obtain ⟨N, hN⟩ : ∃ N, L.length = N := ⟨_, rfl⟩
  rw [hN] at erv
  have HB := hide (And.intro h (And.intro hrs (And.intro hp (And.intro f (And.intro x0 (And.intro x1 (And.intro k1 (And.intro hM hN))))))))
  obtain ⟨s0, s1, s2, s3⟩ := cell4' x1
  obtain ⟨r0, r1⟩ := cell2' x0
  subst erv
  clear h hrs hp f x0 x1 k1 hN
  have at2 : ∀ {w2 : World}, Kp Nu w1 w2 → (w2.cell? ⟨w.heap.size + 1, 0, none⟩ = some (.int .i64 s.kind) ∧ w2.cell? ⟨w.heap.size + 1, 1, none⟩ = some (.int .u64 s.lo) ∧ w2.cell? ⟨w.heap.size + 1, 2, none⟩ = some (.int .u64 s.hi) ∧ w2.cell? ⟨w.heap.size + 1, 3, none⟩ = some (.int .u8 s.h)) ∧ w2.cell? ⟨w.heap.size, 0, none⟩ = some (.int .i64 lim) ∧ w2.cell? ⟨w.heap.size, 1, none⟩ = some (.slice (some ⟨qr, qo, none⟩) N qc) := fun k => by
    obtain ⟨h, hrs, hp, f, x0, x1, k1, hM, hN⟩ := HB.out
    exact ⟨cell4' ((k.block _ (blk_lt x1) (fun h => h)).trans x1), cell2' ((k.block _ (blk_lt x0) (fun h => h)).trans x0)⟩
  have HAT := hide (fun w2 => @at2 w2)
  clear at2
  have kK := HB.out.2.2.2.2.2.2.1
  by_cases e3 : s.kind = 3
  · have q3 : (s.kind == 3) = true := by simpa using e3
    have LU := lookup_any (HB.out.1.nu kK) s.lo HB.out.2.2.2.1.1 HB.out.2.2.2.1.2.1
    clear e3
    go_enter Tryd.func70, Tryd.ntmps70
    go_wp2_with fail
    refine LU.mono ?_; rintro e w2 ⟨rfl, k2⟩
    obtain ⟨⟨a0, a1, a2, a3⟩, b0, b1⟩ := HAT.out w2 k2
    have RL := refLookup_any w2 _ L lim (HB.out.2.1.nu (kK.andNu k2)) HB.out.1.tab HB.out.2.2.2.2.2.2.2.1 s.lo HB.out.2.2.2.1.1 HB.out.2.2.2.1.2.1
    have H2 := hide (kK.andNu k2)
    clear LU k2 kK
    go_wp2_with fail
    refine RL.mono ?_; rintro e w3 ⟨rfl, k3⟩
    have H3 := hide (H2.out.andNu k3)
    have bo : (ow L s.lo == ow L s.lo) = true := by simp
    clear RL k3
    go_wp2
    go_ret
    exact ⟨rfl, H3.out⟩
  have q3 : (s.kind == 3) = false := by simpa using e3
  by_cases e4 : s.kind = 4
  · have q4 : (s.kind == 4) = true := by simpa using e4
    have SG := segment_any (HB.out.1.nu kK) s.lo HB.out.2.2.2.1.1 HB.out.2.2.2.1.2.1
    clear e4 e3
    go_enter Tryd.func70, Tryd.ntmps70
    go_wp2_with fail
    refine SG.mono ?_; rintro e w2 ⟨sg, rfl, hsg, k2⟩
    unfold enc
    have k2a : Kp Nu w2 (w2.alloc (.cells #[.int .u64 sg.lo, .int .u64 sg.hi, .int .u8 sg.h] 26)) := Kp.alloc w2 _ Nu
    have y2 := heap_alloc_new w2 (.cells #[.int .u64 sg.lo, .int .u64 sg.hi, .int .u8 sg.h] 26)
    obtain ⟨⟨a0, a1, a2, a3⟩, b0, b1⟩ := HAT.out _ (k2.andNu k2a)
    have RL := refSeg_any _ _ L lim (HB.out.2.1.nu (kK.andNu (k2.andNu k2a))) HB.out.1.tab HB.out.2.2.2.2.2.2.2.1 s.lo HB.out.2.2.2.1.1 HB.out.2.2.2.1.2.1 sg hsg
    have H2 := hide (And.intro (kK.andNu (k2.andNu k2a)) y2)
    clear SG k2 kK k2a y2 hsg
    go_wp2_with fail
    refine RL.mono ?_; rintro e w3 ⟨rfl, k3⟩
    unfold enc
    have k3a : Kp Nu w3 (w3.alloc (.cells #[.int .u64 sg.lo, .int .u64 sg.hi, .int .u8 sg.h] 26)) := Kp.alloc w3 _ Nu
    obtain ⟨g0, g1, g2⟩ := cell3 (((k3.andNu k3a).block _ (blk_lt H2.out.2) (fun h => h)).trans H2.out.2)
    obtain ⟨g3, g4, g5⟩ := cell3 (heap_alloc_new w3 (.cells #[.int .u64 sg.lo, .int .u64 sg.hi, .int .u8 sg.h] 26))
    have H3 := hide (H2.out.1.andNu (k3.andNu k3a))
    have t0 : (sg.lo == sg.lo) = true := by simp
    have t1 : (sg.hi == sg.hi) = true := by simp
    have t2 : (sg.h == sg.h) = true := by simp
    clear RL k3 k3a
    go_wp2
    go_ret
    exact ⟨rfl, H3.out⟩
  have q4 : (s.kind == 4) = false := by simpa using e4
  by_cases e5 : s.kind = 5
  · have q5 : (s.kind == 5) = true := by simpa using e5
    have LU := owns_all (HB.out.1.nu kK) s HB.out.2.2.2.1
    obtain ⟨bo, ebo⟩ : ∃ b, ownsA L s.lo s.hi s.h = b := ⟨_, rfl⟩
    rw [ebo] at LU
    clear e5 e4 e3
    go_enter Tryd.func70, Tryd.ntmps70
    go_wp2_with fail
    refine LU.mono ?_; rintro e w2 ⟨rfl, k2⟩
    obtain ⟨⟨a0, a1, a2, a3⟩, b0, b1⟩ := HAT.out w2 k2
    have RL := refOwns_all w2 _ L lim (HB.out.2.1.nu (kK.andNu k2)) HB.out.1.tab HB.out.2.2.2.2.2.2.2.1 s
    rw [ebo] at RL
    have H2 := hide (kK.andNu k2)
    clear LU k2 kK ebo
    go_wp2_with fail
    refine RL.mono ?_; rintro e w3 ⟨rfl, k3⟩
    have H3 := hide (H2.out.andNu k3)
    have tb : (bo == bo) = true := by simp
    clear RL k3
    go_wp2
    go_ret
    exact ⟨rfl, H3.out⟩
  have q5 : (s.kind == 5) = false := by simpa using e5
  by_cases e6 : s.kind = 6
  · have q6 : (s.kind == 6) = true := by simpa using e6
    have LE := len_any (HB.out.1.nu kK)
    have LM := limit_any (HB.out.1.nu kK)
    rw [HB.out.2.2.2.2.2.2.2.2] at LE
    have z1 : ((N : Int) == (N : Int)) = true := by simp
    have z2 : (lim == lim) = true := by simp
    have HK := hide kK
    clear e6 e5 e4 e3 kK
    go_enter Tryd.func70, Tryd.ntmps70
    go_wp2_with (first | (go_at_call 22; refine LE.mono ?_; rintro e wl ⟨rfl, rfl⟩) | (go_at_call 23; refine LM.mono ?_; rintro e wm ⟨rfl, rfl⟩))
    go_ret
    exact ⟨rfl, HK.out⟩
  have q6 : (s.kind == 6) = false := by simpa using e6
  by_cases e7 : s.kind = 7
  · have q7 : (s.kind == 7) = true := by simpa using e7
    have LI := list_any (HB.out.1.nu kK)
    clear e7 e6 e5 e4 e3
    go_enter Tryd.func70, Tryd.ntmps70
    go_wp2_with fail
    refine LI.mono ?_; rintro e w2 ⟨u2, rfl, ho2, k2⟩
    obtain ⟨⟨a0, a1, a2, a3⟩, b0, b1⟩ := HAT.out w2 k2
    have SM := same_rz w2 u2 _ L (.inr (rs_of_own ho2 HB.out.1.tab.ne)) (.inr (HB.out.2.1.nu (kK.andNu k2))) (by have := HB.out.2.2.2.2.2.2.2.1; omega)
    obtain ⟨ad2, cp2, eu⟩ := own_slice ho2
    rw [HB.out.2.2.2.2.2.2.2.2] at eu
    subst eu
    have H2 := hide (kK.andNu k2)
    clear LI k2 kK ho2
    go_wp2_with fail
    refine SM.mono ?_; rintro e w3 ⟨rfl, k3⟩
    have H3 := hide (H2.out.andNu k3)
    clear SM k3
    go_wp2
    go_ret
    exact ⟨rfl, H3.out⟩
  have q7 : (s.kind == 7) = false := by simpa using e7
  by_cases e8 : s.kind = 8
  · have q8 : (s.kind == 8) = true := by simpa using e8
    have SW := sharesW_any (HB.out.1.nu kK) _ (HB.out.2.1.nu kK)
    have HK := hide kK
    clear e8 e7 e6 e5 e4 e3 kK
    go_enter Tryd.func70, Tryd.ntmps70
    go_wp2_with fail
    refine SW.mono ?_; rintro e w2 ⟨rfl, k2⟩
    have H3 := hide (HK.out.andNu k2)
    clear SW k2
    go_wp2
    go_ret
    exact ⟨rfl, H3.out⟩
  have q8 : (s.kind == 8) = false := by simpa using e8
  have TX := text_any (HB.out.1.nu kK) (HB.out.2.2.1.nu kK)
  clear e8 e7 e6 e5 e4 e3
  obtain ⟨tx, etx⟩ : ∃ t, (⟨(txt L).toArray⟩ : ByteArray) = t := ⟨_, rfl⟩
  rw [etx] at TX
  go_enter Tryd.func70, Tryd.ntmps70
  go_wp2_with fail
  refine TX.mono ?_; rintro e w2 ⟨rfl, k2⟩
  obtain ⟨⟨a0, a1, a2, a3⟩, b0, b1⟩ := HAT.out w2 k2
  have RT := refText_any w2 _ L lim (HB.out.2.1.nu (kK.andNu k2)) HB.out.2.2.2.2.2.2.2.1 HB.out.1.sgb
  rw [etx] at RT
  have H2 := hide (kK.andNu k2)
  clear TX k2 kK etx
  go_wp2_with fail
  refine RT.mono ?_; rintro e w3 ⟨rfl, k3⟩
  have H3 := hide (H2.out.andNu k3)
  clear RT k3
  go_wp2
  go_ret
  exact ⟨rfl, H3.out⟩
end Go.Proofs.YtffcnonhhfhlhaaDoor.Rg
