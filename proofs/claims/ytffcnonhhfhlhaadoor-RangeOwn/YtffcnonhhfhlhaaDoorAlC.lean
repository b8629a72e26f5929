import Derived.Test.YtffcnonhhfhlhaaDoorAlA
import Derived.Test.YtffcnonhhfhlhaaDoorRfI
import Derived.Test.YtffcnonhhfhlhaaDoorWkE
import Derived.StillTailTactics
import Derived.Deep.AppendLies
namespace Go.Proofs.YtffcnonhhfhlhaaDoor.Rg
open Go.RowKit Go.Shelf Go.Sort
open Go.Proofs.YtffcnonhhfhlhaaDoor.It
open Go.BigFrame
set_option linter.unusedVariables false
set_option maxHeartbeats 1000000 in
theorem owns_bad {B b : Nat} {w : World} {lim : Int} {v : Value} {L : List Sg} (h : Tb B w b lim v L) (lo hi o : Int) (hlh : hi < lo) :
    Calls Tryd.prog 21 #[.pointer (some ⟨b, 0, none⟩), .int .u64 lo, .int .u64 hi, .int .u8 o] w fun e w' => e = .returned (.bool false) ∧ Kp Nu w w' := by
  have KA := (Kp.alloc w (.cells #[.int .u8 o] 24) Nu).andAlloc (.cells #[.bool false] 4)
  have z1 : ((w.alloc (.cells #[.int .u8 o] 24)).alloc (.cells #[.bool false] 4)).heap[w.heap.size + 1]? = some (.cells #[.bool false] 4 (0, 0)) := by
    have := heap_alloc_new (w.alloc (.cells #[.int .u8 o] 24)) (.cells #[.bool false] 4)
    rwa [World.size_alloc] at this
  have MA := made_any (h.nu KA)
  have hgd : decide (hi < lo) = true := decide_eq_true hlh
  have hgt : lo > hi := hlh
  have c1 := cell1 z1
  have f1 := free3 z1 0
  have HK := hide KA
  clear h z1 KA
  go_enter Tryd.func21, Tryd.ntmps21
  go_wp2_with (go_at_call 50; refine MA.mono ?_; rintro e w' ⟨rfl, rfl⟩)
  refine bodyPost_ret (v := .bool false) (by simp [results, Tryd.results21, go_sem, c1]) rfl ?_
  exact ⟨rfl, HK.out⟩
theorem refOwns_bad (w : World) (u : Value) (L : List Sg) (lim : Int) (hrs : Rs w u L) (lo hi o : Int) (hlh : hi < lo) :
    Calls Tryd.prog 86 #[.agg #[.int .i64 lim, u], .int .u64 lo, .int .u64 hi, .int .u8 o] w fun e w' => e = .returned (.bool false) ∧ Kp Nu w w' := by
  obtain ⟨rr, off, cap, hu, hc⟩ := hrs
  have hgt : lo > hi := hlh
  subst hu
  clear hc
  go_enter Tryd.func86, Tryd.ntmps86
  go_wp2
  go_ret
  exact ⟨rfl, (Kp.refl _ _).andAlloc _⟩
/-- is all of a range a host's, in any order of its ends -/
def ownsA (L : List Sg) (lo hi o : Int) : Bool := if lo ≤ hi then ownsB L lo hi o else false
theorem owns_all {B b : Nat} {w : World} {lim : Int} {v : Value} {L : List Sg} (h : Tb B w b lim v L) (s : Sp) (f : SpB s) :
    Calls Tryd.prog 21 #[.pointer (some ⟨b, 0, none⟩), .int .u64 s.lo, .int .u64 s.hi, .int .u8 s.h] w fun e w' => e = .returned (.bool (ownsA L s.lo s.hi s.h)) ∧ Kp Nu w w' := by
  unfold ownsA
  by_cases hlh : s.lo ≤ s.hi
  · rw [if_pos hlh]; exact owns_any h _ _ _ f.1 hlh f.2.2.2.1
  · rw [if_neg hlh]; exact owns_bad h _ _ _ (by omega)
theorem refOwns_all (w : World) (u : Value) (L : List Sg) (lim : Int) (hrs : Rs w u L) (hT : Tab L) (hl : L.length ≤ 8192) (s : Sp) :
    Calls Tryd.prog 86 #[.agg #[.int .i64 lim, u], .int .u64 s.lo, .int .u64 s.hi, .int .u8 s.h] w fun e w' => e = .returned (.bool (ownsA L s.lo s.hi s.h)) ∧ Kp Nu w w' := by
  unfold ownsA
  by_cases hlh : s.lo ≤ s.hi
  · rw [if_pos hlh]; exact refOwns_any w u L lim hrs hT hl _ _ _ hlh
  · rw [if_neg hlh]; exact refOwns_bad w u L lim hrs _ _ _ (by omega)
set_option maxRecDepth 100000 in
set_option maxHeartbeats 4000000 in
theorem looks_any {B b : Nat} {w : World} {lim : Int} {v : Value} {L : List Sg} (h : Tb B w b lim v L) (hp : PowB w.heap.size w) (rv : Value) (hrs : Rs w rv L) (s : Sp) (f : SpB s) :
    Calls Tryd.prog 70 #[.pointer (some ⟨b, 0, none⟩), .agg #[.int .i64 lim, rv], .agg #[.int .i64 s.kind, .int .u64 s.lo, .int .u64 s.hi, .int .u8 s.h]] w fun e w' => e = .returned (.bool true) ∧ Kp Nu w w' := by
  have mixed : Tryd.prog.follows .mixedOrders = true := by kernel_rfl
  have hM : L.length ≤ 8192 := by have := h.len; have := h.lim1; omega
  obtain ⟨w1, hw1⟩ : ∃ w1, (w.alloc (.cells #[.int .i64 lim, rv] 29)).alloc (.cells #[.int .i64 s.kind, .int .u64 s.lo, .int .u64 s.hi, .int .u8 s.h] 36) = w1 := ⟨_, rfl⟩
  obtain ⟨x0, x1, k1⟩ := two_al w #[.int .i64 lim, rv] #[.int .i64 s.kind, .int .u64 s.lo, .int .u64 s.hi, .int .u8 s.h] 29 36
  rw [hw1] at x0 x1 k1
  obtain ⟨qr, qo, qc, erv, _⟩ := id hrs
  obtain ⟨N, hN⟩ : ∃ N, L.length = N := ⟨_, rfl⟩
  rw [hN] at erv
  have HB := hide (And.intro h (And.intro hrs (And.intro hp (And.intro f (And.intro x0 (And.intro x1 (And.intro k1 (And.intro hM hN))))))))
  obtain ⟨s0, s1, s2, s3⟩ := cell4' x1
  obtain ⟨r0, r1⟩ := cell2' x0
  subst erv
  clear h hrs hp f x0 x1 k1 hN
  have at2 : ∀ {w2 : World}, Kp Nu w1 w2 → (w2.cell? ⟨w.heap.size + 1, 0, none⟩ = some (.int .i64 s.kind) ∧ w2.cell? ⟨w.heap.size + 1, 1, none⟩ = some (.int .u64 s.lo) ∧ w2.cell? ⟨w.heap.size + 1, 2, none⟩ = some (.int .u64 s.hi) ∧ w2.cell? ⟨w.heap.size + 1, 3, none⟩ = some (.int .u8 s.h)) ∧ w2.cell? ⟨w.heap.size, 0, none⟩ = some (.int .i64 lim) ∧ w2.cell? ⟨w.heap.size, 1, none⟩ = some (.slice (some ⟨qr, qo, none⟩) N qc) := fun k => by
    obtain ⟨h, hrs, hp, f, x0, x1, k1, hM, hN⟩ := HB.out
    exact ⟨cell4' ((k.block _ (blk_lt x1) (fun h => h)).trans x1), cell2' ((k.block _ (blk_lt x0) (fun h => h)).trans x0)⟩
  have HAT := hide (fun w2 => @at2 w2)
  clear at2
  have kK := HB.out.2.2.2.2.2.2.1
  by_cases e3 : s.kind = 3
  · have q3 : (s.kind == 3) = true := by simpa using e3
    have LU := lookup_any (HB.out.1.nu kK) s.lo HB.out.2.2.2.1.1 HB.out.2.2.2.1.2.1
    clear e3
    go_enter Tryd.func70, Tryd.ntmps70
    go_wp2_with fail
    refine LU.mono ?_; rintro e w2 ⟨rfl, k2⟩
    obtain ⟨⟨a0, a1, a2, a3⟩, b0, b1⟩ := HAT.out w2 k2
    have RL := refLookup_any w2 _ L lim (HB.out.2.1.nu (kK.andNu k2)) HB.out.1.tab HB.out.2.2.2.2.2.2.2.1 s.lo HB.out.2.2.2.1.1 HB.out.2.2.2.1.2.1
    have H2 := hide (kK.andNu k2)
    clear LU k2 kK
    go_wp2_with fail
    refine RL.mono ?_; rintro e w3 ⟨rfl, k3⟩
    have H3 := hide (H2.out.andNu k3)
    have bo : (ow L s.lo == ow L s.lo) = true := by simp
    clear RL k3
    go_wp2
    go_ret
    exact ⟨rfl, H3.out⟩
  have q3 : (s.kind == 3) = false := by simpa using e3
  by_cases e4 : s.kind = 4
  · have q4 : (s.kind == 4) = true := by simpa using e4
    have SG := segment_any (HB.out.1.nu kK) s.lo HB.out.2.2.2.1.1 HB.out.2.2.2.1.2.1
    clear e4 e3
    go_enter Tryd.func70, Tryd.ntmps70
    go_wp2_with fail
    refine SG.mono ?_; rintro e w2 ⟨sg, rfl, hsg, k2⟩
    unfold enc
    have k2a : Kp Nu w2 (w2.alloc (.cells #[.int .u64 sg.lo, .int .u64 sg.hi, .int .u8 sg.h] 26)) := Kp.alloc w2 _ Nu
    have y2 := heap_alloc_new w2 (.cells #[.int .u64 sg.lo, .int .u64 sg.hi, .int .u8 sg.h] 26)
    obtain ⟨⟨a0, a1, a2, a3⟩, b0, b1⟩ := HAT.out _ (k2.andNu k2a)
    have RL := refSeg_any _ _ L lim (HB.out.2.1.nu (kK.andNu (k2.andNu k2a))) HB.out.1.tab HB.out.2.2.2.2.2.2.2.1 s.lo HB.out.2.2.2.1.1 HB.out.2.2.2.1.2.1 sg hsg
    have H2 := hide (And.intro (kK.andNu (k2.andNu k2a)) y2)
    clear SG k2 kK k2a y2 hsg
    go_wp2_with fail
    refine RL.mono ?_; rintro e w3 ⟨rfl, k3⟩
    unfold enc
    have k3a : Kp Nu w3 (w3.alloc (.cells #[.int .u64 sg.lo, .int .u64 sg.hi, .int .u8 sg.h] 26)) := Kp.alloc w3 _ Nu
    obtain ⟨g0, g1, g2⟩ := cell3 (((k3.andNu k3a).block _ (blk_lt H2.out.2) (fun h => h)).trans H2.out.2)
    obtain ⟨g3, g4, g5⟩ := cell3 (heap_alloc_new w3 (.cells #[.int .u64 sg.lo, .int .u64 sg.hi, .int .u8 sg.h] 26))
    have H3 := hide (H2.out.1.andNu (k3.andNu k3a))
    have t0 : (sg.lo == sg.lo) = true := by simp
    have t1 : (sg.hi == sg.hi) = true := by simp
    have t2 : (sg.h == sg.h) = true := by simp
    clear RL k3 k3a
    go_wp2
    go_ret
    exact ⟨rfl, H3.out⟩
  have q4 : (s.kind == 4) = false := by simpa using e4
  by_cases e5 : s.kind = 5
  · have q5 : (s.kind == 5) = true := by simpa using e5
    have LU := owns_all (HB.out.1.nu kK) s HB.out.2.2.2.1
    obtain ⟨bo, ebo⟩ : ∃ b, ownsA L s.lo s.hi s.h = b := ⟨_, rfl⟩
    rw [ebo] at LU
    clear e5 e4 e3
    go_enter Tryd.func70, Tryd.ntmps70
    go_wp2_with fail
    refine LU.mono ?_; rintro e w2 ⟨rfl, k2⟩
    obtain ⟨⟨a0, a1, a2, a3⟩, b0, b1⟩ := HAT.out w2 k2
    have RL := refOwns_all w2 _ L lim (HB.out.2.1.nu (kK.andNu k2)) HB.out.1.tab HB.out.2.2.2.2.2.2.2.1 s
    rw [ebo] at RL
    have H2 := hide (kK.andNu k2)
    clear LU k2 kK ebo
    go_wp2_with fail
    refine RL.mono ?_; rintro e w3 ⟨rfl, k3⟩
    have H3 := hide (H2.out.andNu k3)
    have tb : (bo == bo) = true := by simp
    clear RL k3
    go_wp2
    go_ret
    exact ⟨rfl, H3.out⟩
  have q5 : (s.kind == 5) = false := by simpa using e5
  by_cases e6 : s.kind = 6
  · have q6 : (s.kind == 6) = true := by simpa using e6
    have LE := len_any (HB.out.1.nu kK)
    have LM := limit_any (HB.out.1.nu kK)
    rw [HB.out.2.2.2.2.2.2.2.2] at LE
    have z1 : ((N : Int) == (N : Int)) = true := by simp
    have z2 : (lim == lim) = true := by simp
    have HK := hide kK
    clear e6 e5 e4 e3 kK
    go_enter Tryd.func70, Tryd.ntmps70
    go_wp2_with (first | (go_at_call 22; refine LE.mono ?_; rintro e wl ⟨rfl, rfl⟩) | (go_at_call 23; refine LM.mono ?_; rintro e wm ⟨rfl, rfl⟩))
    go_ret
    exact ⟨rfl, HK.out⟩
  have q6 : (s.kind == 6) = false := by simpa using e6
  by_cases e7 : s.kind = 7
  · have q7 : (s.kind == 7) = true := by simpa using e7
    have LI := list_any (HB.out.1.nu kK)
    clear e7 e6 e5 e4 e3
    go_enter Tryd.func70, Tryd.ntmps70
    go_wp2_with fail
    refine LI.mono ?_; rintro e w2 ⟨u2, rfl, ho2, k2⟩
    obtain ⟨⟨a0, a1, a2, a3⟩, b0, b1⟩ := HAT.out w2 k2
    have SM := same_rz w2 u2 _ L (.inr (rs_of_own ho2 HB.out.1.tab.ne)) (.inr (HB.out.2.1.nu (kK.andNu k2))) (by have := HB.out.2.2.2.2.2.2.2.1; omega)
    obtain ⟨ad2, cp2, eu⟩ := own_slice ho2
    rw [HB.out.2.2.2.2.2.2.2.2] at eu
    subst eu
    have H2 := hide (kK.andNu k2)
    clear LI k2 kK ho2
    go_wp2_with fail
    refine SM.mono ?_; rintro e w3 ⟨rfl, k3⟩
    have H3 := hide (H2.out.andNu k3)
    clear SM k3
    go_wp2
    go_ret
    exact ⟨rfl, H3.out⟩
  have q7 : (s.kind == 7) = false := by simpa using e7
  by_cases e8 : s.kind = 8
  · have q8 : (s.kind == 8) = true := by simpa using e8
    have SW := sharesW_any (HB.out.1.nu kK) _ (HB.out.2.1.nu kK)
    have HK := hide kK
    clear e8 e7 e6 e5 e4 e3 kK
    go_enter Tryd.func70, Tryd.ntmps70
    go_wp2_with fail
    refine SW.mono ?_; rintro e w2 ⟨rfl, k2⟩
    have H3 := hide (HK.out.andNu k2)
    clear SW k2
    go_wp2
    go_ret
    exact ⟨rfl, H3.out⟩
  have q8 : (s.kind == 8) = false := by simpa using e8
  have TX := text_any (HB.out.1.nu kK) (HB.out.2.2.1.nu kK)
  clear e8 e7 e6 e5 e4 e3
  obtain ⟨tx, etx⟩ : ∃ t, (⟨(txt L).toArray⟩ : ByteArray) = t := ⟨_, rfl⟩
  rw [etx] at TX
  go_enter Tryd.func70, Tryd.ntmps70
  go_wp2_with fail
  refine TX.mono ?_; rintro e w2 ⟨rfl, k2⟩
  obtain ⟨⟨a0, a1, a2, a3⟩, b0, b1⟩ := HAT.out w2 k2
  have RT := refText_any w2 _ L lim (HB.out.2.1.nu (kK.andNu k2)) HB.out.2.2.2.2.2.2.2.1 HB.out.1.sgb
  rw [etx] at RT
  have H2 := hide (kK.andNu k2)
  clear TX k2 kK etx
  go_wp2_with fail
  refine RT.mono ?_; rintro e w3 ⟨rfl, k3⟩
  have H3 := hide (H2.out.andNu k3)
  clear RT k3
  go_wp2
  go_ret
  exact ⟨rfl, H3.out⟩
end Go.Proofs.YtffcnonhhfhlhaaDoor.Rg
namespace Go.Proofs.YtffcnonhhfhlhaaDoor.Rg
open Go.RowKit Go.Shelf Go.Sort
open Go.Proofs.YtffcnonhhfhlhaaDoor.It
open Go.BigFrame
set_option linter.unusedVariables false
/-- another block's turn leaves a table -/
theorem Tb.othr {B b g : Nat} {w w' : World} {lim : Int} {v : Value} {L : List Sg} {c : Array Value} {t : TypeId} (h : Tb B w b lim v L) (k : Kp (fun q => q = g) w w') (hg : w.heap[g]? = some (.cells c t (0, 0))) (hne : b ≠ g) (ht : t ≠ 26) : Tb B w' b lim v L :=
  ⟨(k.block _ (blk_lt h.blk) (fun e => hne e)).trans h.blk, h.low, own_keep h.own (fun q e => k.block q (own_lt h.own e) (fun e2 => h.ne26 e hg ht e2)), h.tab, h.len, h.lim1⟩
/-- a list of segments that can be read at a slice of a row of segments -/
def Rt (V : World) (rv : Value) (L : List Sg) : Prop := ∃ r off cap c, rv = .slice (some ⟨r, off, none⟩) L.length cap ∧ V.heap[r]? = some (.cells c 26 (0, 0)) ∧ Row c off L
theorem Rt.rs {V : World} {rv : Value} {L : List Sg} (h : Rt V rv L) : Rs V rv L := by
  obtain ⟨r, off, cap, c, e, hr, hc⟩ := h
  refine ⟨r, off, cap, e, fun i s hs => ?_⟩
  obtain ⟨x0, x1, x2⟩ := hc i s hs
  exact ⟨by simp [World.cell?, hr, x0], by simp [World.cell?, hr, x1], by simp [World.cell?, hr, x2]⟩
theorem Rt.keep {V V' : World} {rv : Value} {L : List Sg} {T : Nat → Prop} (h : Rt V rv L) (k : Kp T V V') (hT : ∀ (g : Nat) (c : Array Value), V.heap[g]? = some (.cells c 26 (0, 0)) → ¬ T g) : Rt V' rv L := by
  obtain ⟨r, off, cap, c, e, hr, hc⟩ := h
  exact ⟨r, off, cap, c, e, (k.block _ (blk_lt hr) (hT r c hr)).trans hr, hc⟩
theorem Rt.nu {V V' : World} {rv : Value} {L : List Sg} (h : Rt V rv L) (k : Kp Nu V V') : Rt V' rv L := h.keep k (fun _ _ _ e => e)
theorem Rt.of_own {V : World} {B : Nat} {u : Value} {L : List Sg} (h : V.ownsRow B 26 3 u L.length (cells L)) (hl : 0 < L.length) : Rt V u L := by
  rcases h.2 with ⟨_, h0⟩ | ⟨r, cap, cur, e, hB, hg, h1, h2, h3, h4⟩
  · omega
  · refine ⟨r, 0, cap, cur, e, hg, fun i s hs => ?_⟩
    have hi : i < L.length := (List.getElem?_eq_some_iff.1 hs).1
    have key : ∀ j, j < 3 → cur[i * 3 + j]? = (cellsG s)[j]? := by
      intro j hj
      have e1 := cells_at L i s hs j hj
      rw [← h4, List.getElem?_take_of_lt (by omega)] at e1
      simpa using e1
    have k0 := key 0 (by omega)
    have k1 := key 1 (by omega)
    have k2 := key 2 (by omega)
    simp only [Nat.zero_add]
    exact ⟨by simpa [cellsG] using k0, by simpa [cellsG] using k1, by simpa [cellsG] using k2⟩
theorem Tb.keepT {B b : Nat} {w w' : World} {lim : Int} {v : Value} {L : List Sg} {T : Nat → Prop} (h : Tb B w b lim v L) (k : Kp T w w') (hb : ¬ T b) (hT : ∀ (g : Nat) (c : Array Value), w.heap[g]? = some (.cells c 26 (0, 0)) → ¬ T g) : Tb B w' b lim v L :=
  ⟨(k.block _ (blk_lt h.blk) hb).trans h.blk, h.low, own_keep h.own (fun q e => by
    obtain ⟨r, cap, ev, cur, hr⟩ := h.row
    rw [ev] at e
    have e3 : r = q := by simpa [Value.ownBlock] using e
    subst e3
    exact k.block r (blk_lt hr) (hT r cur hr)), h.tab, h.len, h.lim1⟩
def ptrs (bs : List Nat) : List Value := bs.map (fun b => .pointer (some ⟨b, 0, none⟩))
def refs (lim : Int) (rs : List Value) : List Value := rs.flatMap (fun r => [.int .i64 lim, r])
theorem refs_len (lim : Int) (rs : List Value) : (refs lim rs).length = rs.length * 2 := by
  induction rs with
  | nil => rfl
  | cons r rs ih => simp only [refs, List.flatMap_cons, List.length_append, List.length_cons, List.length_nil] at *; omega
theorem refs_at {lim : Int} : ∀ {rs : List Value} {j : Nat} {r : Value}, rs[j]? = some r → (refs lim rs)[j * 2]? = some (.int .i64 lim) ∧ (refs lim rs)[j * 2 + 1]? = some r
  | [], j, r, h => by simp at h
  | x :: rs, 0, r, h => by
    simp at h; subst h
    simp [refs]
  | x :: rs, j + 1, r, h => by
    obtain ⟨h1, h2⟩ := refs_at (lim := lim) (rs := rs) (j := j) (r := r) (by simpa using h)
    simp only [refs, List.flatMap_cons] at *
    constructor
    · rw [List.getElem?_append_right (by simp; omega)]
      have : (j + 1) * 2 - [Value.int IntKind.i64 lim, x].length = j * 2 := by simp; omega
      rw [this]; exact h1
    · rw [List.getElem?_append_right (by simp; omega)]
      have : (j + 1) * 2 + 1 - [Value.int IntKind.i64 lim, x].length = j * 2 + 1 := by simp; omega
      rw [this]; exact h2
/-- a table left behind, and what the document has for it -/
structure Lf (w V : World) (b0 b : Nat) (lim : Int) (bj : Nat) (rj : Value) : Prop where
  ne : bj ≠ b
  low : bj = b0 ∨ w.heap.size ≤ bj
  ex : ∃ Bj vj Lj, Tb Bj V bj lim vj Lj ∧ Rt V rj Lj
/-- those left behind -/
structure Pe (w V : World) (b0 b : Nat) (lim : Int) (lv wv : Value) (bs : List Nat) (rs : List Value) : Prop where
  kp : Kp (fun k => k = b0) w V
  low : b = b0 ∨ w.heap.size ≤ b
  len : rs.length = bs.length
  lft : V.ownsRow (w.heap.size + 1) 27 1 lv bs.length (ptrs bs)
  was : V.ownsRow (w.heap.size + 1) 29 2 wv bs.length (refs lim rs)
  each : ∀ (j : Nat) bj rj, bs[j]? = some bj → rs[j]? = some rj → Lf w V b0 b lim bj rj
/-- the table, and what the document has for it -/
structure Pc (V : World) (br b : Nat) (lim : Int) (rv : Value) (L : List Sg) : Prop where
  tb : ∃ B v, Tb B V b lim v L
  bx : V.heap[br]? = some (.cells #[.int .i64 lim, rv] 29 (0, 0))
  rt : Rt V rv L
section
variable {w V V' : World} {b0 b : Nat} {lim : Int} {lv wv : Value} {bs : List Nat} {rs : List Value}
theorem own_t {B t e n g : Nat} {v : Value} {xs : List Value} (h : V.ownsRow B t e v n xs) (hg : v.ownBlock = some g) : B ≤ g ∧ ∃ c, V.heap[g]? = some (.cells c t (0, 0)) := by
  rcases h.2 with ⟨rfl, h0⟩ | ⟨g', cap, cur, rfl, hb', hg', _⟩
  · cases hg
  · simp [Value.ownBlock] at hg; subst hg; exact ⟨hb', cur, hg'⟩
theorem Pe.keep {T : Nat → Prop} (h : Pe w V b0 b lim lv wv bs rs) (k : Kp T V V') (hT : ∀ i, T i → i = b0 ∨ w.heap.size ≤ i) (h27 : ∀ g, lv.ownBlock = some g → ¬ T g) (h29 : ∀ g, wv.ownBlock = some g → ¬ T g) (h93 : ∀ (j : Nat) bj, bs[j]? = some bj → ¬ T bj) (h26 : ∀ (g : Nat) (c : Array Value), V.heap[g]? = some (.cells c 26 (0, 0)) → ¬ T g) : Pe w V' b0 b lim lv wv bs rs :=
  ⟨h.kp.trans k (fun i hi e => by
    rcases hT i e with h | h
    · exact h
    · omega), h.low, h.len, own_keep h.lft (fun g e => k.block g (own_lt h.lft e) (h27 g e)), own_keep h.was (fun g e => k.block g (own_lt h.was e) (h29 g e)), fun j bj rj h1 h2 => by
    obtain ⟨e1, e2, Bj, vj, Lj, t1, t2⟩ := h.each j bj rj h1 h2
    exact ⟨e1, e2, Bj, vj, Lj, t1.keepT k (h93 j bj h1) h26, t2.keep k h26⟩⟩
theorem Pe.nu (h : Pe w V b0 b lim lv wv bs rs) (k : Kp Nu V V') : Pe w V' b0 b lim lv wv bs rs :=
  h.keep k (fun _ e => e.elim) (fun _ _ e => e) (fun _ _ e => e) (fun _ _ _ e => e) (fun _ _ _ e => e)
/-- the table turns -/
theorem Pe.turn (h : Pe w V b0 b lim lv wv bs rs) {B : Nat} {v : Value} {L : List Sg} (ht : Tb B V b lim v L) (k : Kp (fun q => q = b) V V') : Pe w V' b0 b lim lv wv bs rs := by
  refine h.keep k (fun i e => ?_) (fun g e e2 => ?_) (fun g e e2 => ?_) (fun j bj hj e2 => ?_) (fun g c hc e2 => ?_)
  · have e : i = b := e
    rw [e]; exact h.low
  · obtain ⟨_, c, hc⟩ := own_t h.lft e
    have e2 : g = b := e2
    rw [e2, ht.blk] at hc; cases hc
  · obtain ⟨_, c, hc⟩ := own_t h.was e
    have e2 : g = b := e2
    rw [e2, ht.blk] at hc; cases hc
  · obtain ⟨rj, hrj⟩ : ∃ rj, rs[j]? = some rj := ⟨_, List.getElem?_eq_getElem (by rw [h.len]; exact (List.getElem?_eq_some_iff.1 hj).1)⟩
    exact (h.each j bj rj hj hrj).ne e2
  · have e2 : g = b := e2
    rw [e2, ht.blk] at hc; cases hc
/-- the document's table is stored -/
theorem Pe.setr (h : Pe w V b0 b lim lv wv bs rs) {cc : Array Value} (hb : V.heap[w.heap.size]? = some (.cells cc 29 (0, 0))) (k : Kp (fun q => q = w.heap.size) V V') : Pe w V' b0 b lim lv wv bs rs := by
  refine h.keep k (fun i e => .inr (by have e : i = w.heap.size := e; omega)) (fun g e e2 => ?_) (fun g e e2 => ?_) (fun j bj hj e2 => ?_) (fun g c hc e2 => ?_)
  · have h1 := (own_t h.lft e).1
    have e2 : g = w.heap.size := e2
    omega
  · have h1 := (own_t h.was e).1
    have e2 : g = w.heap.size := e2
    omega
  · obtain ⟨rj, hrj⟩ : ∃ rj, rs[j]? = some rj := ⟨_, List.getElem?_eq_getElem (by rw [h.len]; exact (List.getElem?_eq_some_iff.1 hj).1)⟩
    obtain ⟨_, _, _, _, _, t1, _⟩ := h.each j bj rj hj hrj
    have e2 : bj = w.heap.size := e2
    have := t1.blk
    rw [e2, hb] at this; cases this
  · have e2 : g = w.heap.size := e2
    rw [e2, hb] at hc; cases hc
/-- one more is left behind -/
theorem Pe.push {W W2 : World} {b' : Nat} {lv' wv' rj : Value} (h : Pe w V b0 b lim lv wv bs rs) {Bj : Nat} {vj : Value} {Lj : List Sg} (ht : Tb Bj V b lim vj Lj) (hr : Rt V rj Lj) (k1 : Kp Nu V W) (g1 : Kp (fun q => some q = lv.ownBlock) W V') (l1 : V'.ownsRow (w.heap.size + 1) 27 1 lv' (bs.length + 1) (ptrs bs ++ [.pointer (some ⟨b, 0, none⟩)])) (hl1 : lv'.ownBlock = lv.ownBlock ∨ lv'.ownBlock = some W.heap.size)
    (k2 : Kp Nu V' W2) {V2 : World} (g2 : Kp (fun q => some q = wv.ownBlock) W2 V2) (l2 : V2.ownsRow (w.heap.size + 1) 29 2 wv' (bs.length + 1) (refs lim rs ++ [.int .i64 lim, rj])) (hb' : V.heap.size ≤ b' ∨ (b' ≠ b ∧ w.heap.size ≤ b' ∧ ∀ (j : Nat) bj, bs[j]? = some bj → bj ≠ b')) (hlo : w.heap.size ≤ V.heap.size) : Pe w V2 b0 b' lim lv' wv' (bs ++ [b]) (rs ++ [rj]) := by
  have hW := h.nu k1
  have ty : ∀ {g : Nat}, lv.ownBlock = some g → ∃ c, W.heap[g]? = some (.cells c 27 (0, 0)) := fun e => (own_t hW.lft e).2
  have lwL : ∀ {g : Nat}, lv.ownBlock = some g → w.heap.size + 1 ≤ g := fun e => (own_t hW.lft e).1
  have lwW : ∀ {g : Nat}, wv.ownBlock = some g → w.heap.size + 1 ≤ g := fun e => (own_t hW.was e).1
  -- behind the first append
  have nT : ∀ (g : Nat) (c : Array Value) (t : TypeId), W.heap[g]? = some (.cells c t (0, 0)) → t ≠ 27 → ¬ some g = lv.ownBlock := fun g c t hc ht e => by
    obtain ⟨c', hc'⟩ := ty e.symm
    rw [hc] at hc'; cases hc'; exact ht rfl
  have kb1 : ∀ {B' b1 : Nat} {v1 : Value} {L1 : List Sg}, Tb B' W b1 lim v1 L1 → Tb B' V' b1 lim v1 L1 := fun t => t.keepT g1 (nT _ _ _ t.blk (by decide)) (fun g c hc => nT g c _ hc (by decide))
  have kr1 : ∀ {r1 : Value} {L1 : List Sg}, Rt W r1 L1 → Rt V' r1 L1 := fun t => t.keep g1 (fun g c hc => nT g c _ hc (by decide))
  have was1 : V'.ownsRow (w.heap.size + 1) 29 2 wv bs.length (refs lim rs) := own_keep hW.was (fun g e => by
    obtain ⟨_, c, hc⟩ := own_t hW.was e
    exact g1.block g (own_lt hW.was e) (nT g c _ hc (by decide)))
  have was2 := own_keep was1 (fun g e => k2.block g (own_lt was1 e) (fun h => h))
  have lft2 := own_keep l1 (fun g e => k2.block g (own_lt l1 e) (fun h => h))
  -- behind the second
  have nU : ∀ (g : Nat) (c : Array Value) (t : TypeId), W2.heap[g]? = some (.cells c t (0, 0)) → t ≠ 29 → ¬ some g = wv.ownBlock := fun g c t hc ht e => by
    obtain ⟨_, c', hc'⟩ := own_t was2 e.symm
    rw [hc] at hc'; cases hc'; exact ht rfl
  have kb2 : ∀ {B' b1 : Nat} {v1 : Value} {L1 : List Sg}, Tb B' W b1 lim v1 L1 → Tb B' V2 b1 lim v1 L1 := fun t => ((kb1 t).nu k2).keepT g2 (nU _ _ _ ((kb1 t).nu k2).blk (by decide)) (fun g c hc => nU g c _ hc (by decide))
  have kr2 : ∀ {r1 : Value} {L1 : List Sg}, Rt W r1 L1 → Rt V2 r1 L1 := fun t => ((kr1 t).nu k2).keep g2 (fun g c hc => nU g c _ hc (by decide))
  have lt : ∀ {B' b1 : Nat} {v1 : Value} {L1 : List Sg}, Tb B' V b1 lim v1 L1 → b1 < V.heap.size := fun t => blk_lt t.blk
  refine ⟨((hW.kp.trans g1 (fun i hi e => by have := lwL (Eq.symm e); omega)).andNu k2).trans g2 (fun i hi e => by have := lwW (Eq.symm e); omega), ?_, by simp [h.len], ?_, ?_, fun j bj rj' h1 h2 => ?_⟩
  · rcases hb' with h | ⟨_, h, _⟩
    · exact .inr (by omega)
    · exact .inr h
  · have e : ptrs (bs ++ [b]) = ptrs bs ++ [.pointer (some ⟨b, 0, none⟩)] := by simp [ptrs]
    rw [e, List.length_append]
    exact own_keep lft2 (fun g e => by
      obtain ⟨_, c, hc⟩ := own_t lft2 e
      exact g2.block g (own_lt lft2 e) (nU g c _ hc (by decide)))
  · have e : refs lim (rs ++ [rj]) = refs lim rs ++ [.int .i64 lim, rj] := by simp [refs]
    rw [e, List.length_append]
    exact l2
  · by_cases hj : j < bs.length
    · rw [List.getElem?_append_left hj] at h1
      rw [List.getElem?_append_left (by rw [h.len]; exact hj)] at h2
      obtain ⟨e1, e2, Bj', vj', Lj', t1, t2⟩ := h.each j bj rj' h1 h2
      refine ⟨?_, e2, Bj', vj', Lj', kb2 (t1.nu k1), kr2 (t2.nu k1)⟩
      rcases hb' with h | ⟨_, _, h⟩
      · have := lt t1; omega
      · exact h j bj h1
    · have ej : j = bs.length := by
        have := (List.getElem?_eq_some_iff.1 h1).1
        simp at this; omega
      subst ej
      rw [List.getElem?_append_right (Nat.le_refl _)] at h1
      rw [List.getElem?_append_right (by rw [h.len]; exact Nat.le_refl _)] at h2
      simp [h.len] at h1 h2
      subst h1; subst h2
      refine ⟨?_, h.low, Bj, vj, Lj, kb2 (ht.nu k1), kr2 (hr.nu k1)⟩
      rcases hb' with h | ⟨h, _⟩
      · have := lt ht; omega
      · exact fun e => h e.symm
theorem Pc.nu {br : Nat} {rv : Value} {L : List Sg} (h : Pc V br b lim rv L) (k : Kp Nu V V') : Pc V' br b lim rv L := by
  obtain ⟨B, v, ht⟩ := h.tb
  exact ⟨⟨B, v, ht.nu k⟩, (k.block _ (blk_lt h.bx) (fun h => h)).trans h.bx, h.rt.nu k⟩
end
end Go.Proofs.YtffcnonhhfhlhaaDoor.Rg
