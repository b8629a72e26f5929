import Derived.Test.YtbifmcadllilhaaGreatRgQ
import Derived.ProofKit
import Derived.OpenShut
import Derived.SizedLaws
import Derived.Carry
import Derived.Deep.Slices
import Derived.Deep.Fields
namespace Go.Proofs.YtbifmcadllilhaaGreat.Rg
open Go.ChangeShapes Go.WideShapes Go.ChangeAt Go.RowKit
open Go.Deep
set_option linter.unusedVariables false

theorem ownK : ownKnob Tryz.prog.godebug = none := by kernel_rfl
theorem cellsOf3 : Tryz.prog.cellsOf 3 = 1 := by kernel_rfl
theorem cellsOf22 : Tryz.prog.cellsOf 36 = 1 := by kernel_rfl
theorem cellsOf29 : Tryz.prog.cellsOf 24 = 1 := by kernel_rfl
theorem cellsOf40 : Tryz.prog.cellsOf 38 = 3 := by kernel_rfl
theorem bytesOf40 : Tryz.prog.bytesOf 38 = 24 := by kernel_rfl

/-- a step -/
structure Sp where
  kind : Int
  lo : Int
  hi : Int
  h : Int
structure SpAt (W : World) (b o : Nat) (s : Sp) : Prop where
  c0 : W.cell? ⟨b, o, none⟩ = some (.int .i64 s.kind)
  c1 : W.cell? ⟨b, o + 1, none⟩ = some (.int .u64 s.lo)
  c2 : W.cell? ⟨b, o + 2, none⟩ = some (.int .u64 s.hi)
  c3 : W.cell? ⟨b, o + 3, none⟩ = some (.int .u8 s.h)
  fit : 0 ≤ s.lo ∧ s.lo < 18446744073709551616 ∧ 0 ≤ s.hi ∧ s.hi < 18446744073709551616 ∧ 0 ≤ s.h ∧ s.h < 256
/-- a script that came in -/
def Scr (W : World) (v : Value) (S : List Sp) : Prop :=
  ((∃ ad cap, v = .slice ad 0 cap) ∧ S = []) ∨ ∃ b off cap, v = .slice (some ⟨b, off, none⟩) S.length cap ∧ ∀ i s, S[i]? = some s → SpAt W b (off + i * 4) s
structure SgAt (W : World) (b o : Nat) (s : Sg) : Prop where
  c0 : W.cell? ⟨b, o, none⟩ = some (.int .u64 s.lo)
  c1 : W.cell? ⟨b, o + 1, none⟩ = some (.int .u64 s.hi)
  c2 : W.cell? ⟨b, o + 2, none⟩ = some (.int .u8 s.h)
  fit : 0 ≤ s.lo ∧ s.lo < 18446744073709551616 ∧ 0 ≤ s.hi ∧ s.hi < 18446744073709551616 ∧ 0 ≤ s.h ∧ s.h < 256
/-- segments that came in -/
def Sgs (W : World) (v : Value) (S : List Sg) : Prop :=
  ((∃ ad cap, v = .slice ad 0 cap) ∧ S = []) ∨ ∃ b off cap, v = .slice (some ⟨b, off, none⟩) S.length cap ∧ ∀ i s, S[i]? = some s → SgAt W b (off + i * 3) s
theorem cell_nu {w w' : World} {a : Addr} {u : Value} (h : w.cell? a = some u) (k : Kp Nu w w') : w'.cell? a = some u :=
  (World.cell?_of_block (k.block _ (World.block_lt_of_cell? w _ h) (fun h => h))).trans h
theorem SpAt.nu {w w' : World} {s : Sp} {b o : Nat} (h : SpAt w b o s) (k : Kp Nu w w') : SpAt w' b o s := ⟨cell_nu h.c0 k, cell_nu h.c1 k, cell_nu h.c2 k, cell_nu h.c3 k, h.fit⟩
theorem Scr.slice {w : World} {v : Value} {S : List Sp} (h : Scr w v S) : ∃ ad cap, v = .slice ad S.length cap := by
  rcases h with ⟨⟨ad, cap, rfl⟩, rfl⟩ | ⟨b, off, cap, rfl, _⟩
  · exact ⟨ad, cap, rfl⟩
  · exact ⟨_, cap, rfl⟩
theorem Sgs.slice {w : World} {v : Value} {S : List Sg} (h : Sgs w v S) : ∃ ad cap, v = .slice ad S.length cap := by
  rcases h with ⟨⟨ad, cap, rfl⟩, rfl⟩ | ⟨b, off, cap, rfl, _⟩
  · exact ⟨ad, cap, rfl⟩
  · exact ⟨_, cap, rfl⟩
theorem spot_none {w : World} {a : Addr} {u : Value} (h : w.cell? a = some u) : a.spot = none := by
  unfold World.cell? at h
  split at h
  · split at h
    · cases h
    · rename_i _ hs; simpa using hs
  · cases h

section
variable {H : Type} {enc : TypeId × Value → H} {W : World}
theorem sized_at {ts : List TypeId} {ds : List (DataW H)} (h : (DataW.weightsEach Tryz.prog ts ds).all (· ≤ reachBytes) = true) (j : Nat) {t : TypeId} {d : DataW H} (ht : ts[j]? = some t) (hd : ds[j]? = some d) : ∀ n ∈ d.weights Tryz.prog t, n ≤ 140737488351232 := by
  intro n hn
  have := List.all_eq_true.1 h n (DataW.weights_mem_each ht hd n hn)
  exact of_decide_eq_true this
theorem get4 {α : Type} {l : List α} (h : l.length = 4) : ∃ a b c d, l = [a, b, c, d] := by
  match l, h with
  | [a, b, c, d], _ => exact ⟨a, b, c, d, rfl⟩

theorem get3 {α : Type} {l : List α} (h : l.length = 3) : ∃ a b c, l = [a, b, c] := by
  match l, h with
  | [a, b, c], _ => exact ⟨a, b, c, rfl⟩

theorem open_seg1 {fuel : Nat} {cs0 : List Value} {x : DataW H × List MemPlace} (h : DataW.trod enc Tryz.prog W 0 (fun _ => true) true fuel 38 cs0 = some x) :
    ∃ s : Sg, cs0 = [.int .u64 s.lo, .int .u64 s.hi, .int .u8 s.h] ∧ 0 ≤ s.lo ∧ s.lo < 18446744073709551616 ∧ 0 ≤ s.hi ∧ s.hi < 18446744073709551616 ∧ 0 ≤ s.h ∧ s.h < 256 := by
  obtain ⟨xs, n, rfl, rfl, hl, hxl, hf⟩ := DataW.trod_struct Tryz.underlying38 h
  rw [cellsOf40] at hl
  obtain ⟨y0, y1, y2, rfl⟩ := get3 (show xs.length = 3 from hxl)
  obtain ⟨v0, v1, v2, rfl⟩ := get3 hl
  have f0 : DataW.trod enc Tryz.prog W 0 (fun _ => true) true n 24 [v0] = some y0 := by
    have g : DataW.trod enc Tryz.prog W 0 (fun _ => true) true n 24 (([v0, v1, v2].drop 0).take (Tryz.prog.cellsOf 24)) = [y0, y1, y2][0]? := hf 0 _ rfl
    rw [cellsOf29] at g; exact g
  have f1 : DataW.trod enc Tryz.prog W 0 (fun _ => true) true n 24 [v1] = some y1 := by
    have g : DataW.trod enc Tryz.prog W 0 (fun _ => true) true n 24 (([v0, v1, v2].drop 1).take (Tryz.prog.cellsOf 24)) = [y0, y1, y2][1]? := hf 1 _ rfl
    rw [cellsOf29] at g; exact g
  have f2 : DataW.trod enc Tryz.prog W 0 (fun _ => true) true n 36 [v2] = some y2 := by
    have g : DataW.trod enc Tryz.prog W 0 (fun _ => true) true n 36 (([v0, v1, v2].drop 2).take (Tryz.prog.cellsOf 36)) = [y0, y1, y2][2]? := hf 2 _ rfl
    rw [cellsOf22] at g; exact g
  obtain ⟨k0, e0, _, b0⟩ := DataW.trod_int Tryz.underlying24 f0
  obtain rfl : v0 = .int .u64 k0 := by simpa using e0
  obtain ⟨k1, e1, _, b1⟩ := DataW.trod_int Tryz.underlying24 f1
  obtain rfl : v1 = .int .u64 k1 := by simpa using e1
  obtain ⟨k2, e2, _, b2⟩ := DataW.trod_int Tryz.underlying36 f2
  obtain rfl : v2 = .int .u8 k2 := by simpa using e2
  simp [Lit.wf, IntKind.min, IntKind.max, IntKind.signed, IntKind.bits] at b0
  simp [Lit.wf, IntKind.min, IntKind.max, IntKind.signed, IntKind.bits] at b1
  simp [Lit.wf, IntKind.min, IntKind.max, IntKind.signed, IntKind.bits] at b2
  exact ⟨⟨k0, k1, k2⟩, rfl, by dsimp only; omega, by dsimp only; omega, by dsimp only; omega, by dsimp only; omega, by dsimp only; omega, by dsimp only; omega⟩

theorem open_seg {v0 : Value} {d0 : DataW H} {p0 : List MemPlace} (h : DataW.Trod enc Tryz.prog W 0 (fun _ => true) true 22 v0 d0 p0) (hone : ∃ a len cap, v0 = .slice a len cap) (hw : ∀ n ∈ d0.weights Tryz.prog 22, n ≤ 140737488351232) : ∃ S, Sgs W v0 S ∧ (S.length : Int) ≤ 5864062014634 := by
  obtain ⟨fuel, hf⟩ := h
  obtain ⟨a0, len0, cap0, rfl⟩ := hone
  have hf' : DataW.trod enc Tryz.prog W 0 (fun _ => true) true fuel 22 [.slice a0 len0 cap0] = some (d0, p0) := by simpa [Value.cells] using hf
  rcases open_slice Tryz.underlying22 hf' with ⟨hcs, hx⟩ | ⟨a, len, cap, m, n, D, Pl, hcs, _, hl, hm, hmm, hx, hel⟩
  · simp only [List.cons.injEq, and_true] at hcs
    rw [hcs]
    exact ⟨[], .inl ⟨⟨_, _, rfl⟩, rfl⟩, by simp⟩
  · simp only [List.cons.injEq, and_true] at hcs
    rw [hcs]
    simp only [Prod.mk.injEq] at hx
    have hml : m = cap := by rw [hmm]; simp
    have each : ∀ i, i < len → ∃ s : Sg, (∀ j, j < 3 → W.cell? (a.add (i * 3 + j)) = [Value.int .u64 s.lo, .int .u64 s.hi, .int .u8 s.h][j]?) ∧ (0 ≤ s.lo ∧ s.lo < 18446744073709551616 ∧ 0 ≤ s.hi ∧ s.hi < 18446744073709551616 ∧ 0 ≤ s.h ∧ s.h < 256) := by
      intro i hi
      obtain ⟨cs', hc, ht⟩ := hel i (by omega)
      rw [cellsOf40] at hc
      obtain ⟨s, rfl, hfit⟩ := open_seg1 ht
      refine ⟨s, fun j hj => ?_, hfit⟩
      obtain ⟨_, _, hcell⟩ := World.cells?_some hc
      have := hcell j hj
      rw [Deep.add_add] at this
      exact this
    haveI : Inhabited Sg := ⟨⟨0, 0, 0⟩⟩
    obtain ⟨f, hf2⟩ := choose_lt (α := Sg) each
    by_cases h0 : len = 0
    · subst h0
      exact ⟨[], .inl ⟨⟨_, _, rfl⟩, rfl⟩, by simp⟩
    · have hsp : a.spot = none := by
        have h1 := (hf2 0 (by omega)).1 0 (by omega)
        have e : a.add (0 * 3 + 0) = a := by simp [Addr.add]
        rw [e] at h1
        simp only [List.getElem?_cons_zero] at h1
        exact spot_none h1
      obtain ⟨ab, ao, sp⟩ := a
      simp only at hsp
      subst hsp
      have hlb : (len : Int) ≤ 5864062014634 := by
        have := hw ((((List.range len).map D).length + ((List.range (m - len)).map fun j => D (len + j)).length) * Tryz.prog.bytesOf 38) (by rw [hx.1]; simp [DataW.weights, Tryz.underlying22])
        rw [bytesOf40] at this
        simp only [List.length_map, List.length_range] at this
        omega
      refine ⟨(List.range len).map f, .inr ⟨ab, ao, cap, by simp, fun i s hs => ?_⟩, by simpa using hlb⟩
      have hi : i < len := by
        have := (List.getElem?_eq_some_iff.1 hs).1
        simpa using this
      have hs' : f i = s := by simpa [hi] using hs
      subst hs'
      obtain ⟨hc, hfit⟩ := hf2 i hi
      have c := fun j hj => hc j hj
      simp only [Addr.add_lit] at c
      refine ⟨by simpa using c 0 (by omega), ?_, ?_, hfit⟩
      · have := c 1 (by omega); rw [← Nat.add_assoc] at this; simpa using this
      · have := c 2 (by omega); rw [← Nat.add_assoc] at this; simpa using this
end
end Go.Proofs.YtbifmcadllilhaaGreat.Rg
namespace Go.Proofs.YtbifmcadllilhaaGreat.Rg
open Go.RowKit Go.Shelf Go.Sort
open Go.Proofs.YtbifmcadllilhaaGreat.It
set_option linter.unusedVariables false

theorem rs_of_own {w : World} {B : Nat} {u : Value} {L : List Sg} (h : w.ownsRow B 38 3 u L.length (cells L)) (hl : 0 < L.length) : Rs w u L := by
  rcases h.2 with ⟨_, h0⟩ | ⟨r, cap, cur, e, hB, hg, h1, h2, h3, h4⟩
  · omega
  · refine ⟨r, 0, cap, e, fun i s hi => ?_⟩
    obtain ⟨r', cap', e', x0, x1, x2⟩ := row_at h hi
    rw [e] at e'; cases e'
    simpa using And.intro x0 (And.intro x1 x2)

theorem cov_snoc : ∀ {A : List Sg} {a m : Int} {t : Sg}, Cov a A m → t.lo = m → t.lo ≤ t.hi → Cov a (A ++ [t]) (t.hi + 1) := fun h h1 h2 => cov_append h ⟨h1, by omega, rfl⟩
set_option maxHeartbeats 400000 in
theorem refHost_any (a : Int) (w : World) : Calls Tryz.prog 42 #[.int .u8 a] w fun e w' => e = .returned (.bool (decide (a ≤ 15))) ∧ w' = w := by
  go_enter Tryz.func42, Tryz.ntmps42
  go_wp2
  go_ret
  exact ⟨rfl, rfl⟩

set_option maxRecDepth 100000 in
set_option maxHeartbeats 2000000 in
/-- what the document's Fault answers: nothing is at fault only in a list that may be loaded -/
theorem fault_ref (w : World) (u : Value) (M : List Sg) (hM : Sgs w u M) (hlen : (M.length : Int) ≤ 5864062014634) :
    Calls Tryz.prog 24 #[u] w fun e w' => ∃ p c : Int, e = .returned (.tuple #[.int .i64 p, .int .i64 c]) ∧ (c = 0 → Good M ∧ 0 < M.length) ∧ Kp Nu w w' := by
  have mixed : Tryz.prog.follows .mixedOrders = true := by kernel_rfl
  obtain ⟨ad, cap, hu⟩ := hM.slice
  obtain ⟨N, hN⟩ : ∃ N, M.length = N := ⟨_, rfl⟩
  have HM := hide hM
  have HN := hide hN
  rw [hN] at hu hlen
  subst hu
  clear hM hN
  go_enter Tryz.func24, Tryz.ntmps24
  go_wp2_with fail
  go_loopw [4, 5, 6] (fun nx ov i wr => ∃ (k : Nat) (E : Int), i = .int .i64 (k : Int) ∧ k ≤ N ∧ nx = .int .u64 (if E = 18446744073709551616 then 0 else E) ∧ ov = .bool (decide (E = 18446744073709551616)) ∧ Hid (0 ≤ E ∧ E ≤ 18446744073709551616 ∧ Cov 0 (M.take k) E ∧ (∀ s ∈ M.take k, 0 ≤ s.h ∧ s.h < 16) ∧ Kp Nu w wr)) (fun _ _ i _ => N - (intOf i).toNat)
  case atStart => exact ⟨0, 0, rfl, Nat.zero_le _, by simp, by simp, ⟨by omega, by omega, rfl, by simp, Kp.refl _ _⟩⟩
  case round =>
    obtain ⟨k, E, rfl, hk, rfl, rfl, hI⟩ := hrel
    by_cases hlt : k < N
    · have hkM : k < M.length := by rw [HN.out]; exact hlt
      obtain ⟨s, hs⟩ : ∃ s, M[k]? = some s := ⟨_, List.getElem?_eq_getElem hkM⟩
      have hcell : ∃ bs off cp, (.slice ad N cap : Value) = .slice (some ⟨bs, off, none⟩) N cp ∧ SgAt w bs (off + k * 3) s := by
        rcases HM.out with ⟨_, h0⟩ | ⟨bs, off, cp, h0, h3⟩
        · rw [h0] at hs; simp at hs
        · rw [HN.out] at h0
          exact ⟨bs, off, cp, h0, h3 k s hs⟩
      obtain ⟨bs, off, cp, hq, hsg⟩ := hcell
      simp only [Value.slice.injEq] at hq
      obtain ⟨rfl, hq1⟩ := hq
      clear hq1
      obtain ⟨E0, E1, hc, hh, hkp⟩ := hI.out
      obtain ⟨c0, c1, c2, F1⟩ := hsg
      replace c0 := cell_nu c0 hkp
      replace c1 := cell_nu c1 hkp
      replace c2 := cell_nu c2 hkp
      have hltI : (k : Int) < (N : Int) := by omega
      have hk0 : (0 : Int) ≤ (k : Int) := by omega
      have HK := hide hkp
      have HTK : Hid (M.take (k + 1) = M.take k ++ [s]) := by
        show _ = _
        rw [List.take_add_one, hs]; rfl
      by_cases hE : E = 18446744073709551616
      · rw [if_pos hE, decide_eq_true hE]
        clear hI hc hh hkp hs hkM
        go_wp2
        go_ret2
        exact ⟨_, _, rfl, by simp, HK.out⟩
      rw [if_neg hE, decide_eq_false hE]
      by_cases hlo : s.lo = E
      · have y1 : (s.lo != E) = false := by simp [hlo]
        have y1' : (E != E) = false := by simp
        by_cases hgt : s.lo > s.hi
        · have hgd : decide (s.hi < s.lo) = true := decide_eq_true hgt
          have d0 : wr.drew.cell? ⟨bs, off + k * 3, none⟩ = some (.int .u64 s.lo) := c0
          have d1 : wr.drew.cell? ⟨bs, off + k * 3 + 1, none⟩ = some (.int .u64 s.hi) := c1
          have HK2 : Hid (Kp Nu w wr.drew) := HK.out.drew
          clear hI hc hh hkp hs hkM hlo
          go_wp2_with fail
          go_region
          go_wp2
          go_ret2
          exact ⟨_, _, rfl, by simp, HK2.out⟩
        · have hgd : decide (s.hi < s.lo) = false := decide_eq_false hgt
          have d0 : wr.drew.cell? ⟨bs, off + k * 3, none⟩ = some (.int .u64 s.lo) := c0
          have d1 : wr.drew.cell? ⟨bs, off + k * 3 + 1, none⟩ = some (.int .u64 s.hi) := c1
          have d2 : wr.drew.cell? ⟨bs, off + k * 3 + 2, none⟩ = some (.int .u8 s.h) := c2
          have HK2 : Hid (Kp Nu w wr.drew) := HK.out.drew
          have RH := refHost_any s.h wr.drew
          by_cases hho : s.h ≤ 15
          · rw [decide_eq_true hho] at RH
            have HF : Hid (0 ≤ s.hi + 1 ∧ s.hi + 1 ≤ 18446744073709551616 ∧ Cov 0 (M.take (k + 1)) (s.hi + 1) ∧ (∀ t ∈ M.take (k + 1), 0 ≤ t.h ∧ t.h < 16) ∧ Kp Nu w wr.drew) := by
              refine ⟨by omega, by omega, ?_, ?_, HK2.out⟩
              · rw [HTK.out]; exact cov_snoc hc hlo (by omega)
              · rw [HTK.out]; intro t ht
                rcases List.mem_append.1 ht with h | h
                · exact hh t h
                · simp at h; subst h; omega
            have hwp : IntKind.u64.wrap (s.hi + 1) = if s.hi + 1 = 18446744073709551616 then 0 else s.hi + 1 := by
              rw [IntKind.wrap_u64]; split <;> omega
            have hov : (s.hi == 18446744073709551615) = decide (s.hi + 1 = 18446744073709551616) := by
              by_cases e : s.hi = 18446744073709551615
              · simp [e]
              · have : ¬ s.hi + 1 = 18446744073709551616 := by omega
                simp [e, this]
            have HWP := hide (And.intro hwp hov)
            clear hI hc hh hkp hs hkM hlo hwp hov
            go_wp2_with fail
            go_region
            go_wp2_with fail
            refine RH.mono ?_; rintro e w2 ⟨rfl, hw2⟩
            obtain rfl := hw2.symm
            clear RH hw2
            go_wp2
            go_roundw
            case rel => exact ⟨k + 1, s.hi + 1, by go_num, by omega, by first | rw [HWP.out.1] | (rw [← HWP.out.1]), by rw [HWP.out.2], HF⟩
            case measure => simp [intOf]; omega
          · rw [decide_eq_false hho] at RH
            clear hI hc hh hkp hs hkM hlo
            go_wp2_with fail
            go_region
            go_wp2_with fail
            refine RH.mono ?_; rintro e w2 ⟨rfl, hw2⟩
            obtain rfl := hw2.symm
            clear RH hw2
            go_wp2
            go_ret2
            exact ⟨_, _, rfl, by simp, HK2.out⟩
      · have y1 : (s.lo != E) = true := by simp [hlo]
        clear hI hc hh hkp hs hkM
        go_wp2
        go_ret2
        exact ⟨_, _, rfl, by simp, HK.out⟩
    · have hge : ¬ (k : Int) < (N : Int) := by omega
      obtain rfl : k = N := by omega
      obtain ⟨E0, E1, hc, hh, hkp⟩ := hI.out
      rw [List.take_of_length_le (by rw [HN.out]; omega)] at hc hh
      have HK := hide hkp
      by_cases hE : E = 18446744073709551616
      · subst hE
        have HG : Hid (Good M ∧ 0 < M.length) := by
          refine ⟨⟨hc, hh⟩, ?_⟩
          cases M with
          | nil => have e : (0 : Int) = 18446744073709551616 := hc; omega
          | cons a M => simp
        clear hI hc hh hkp
        simp only [if_true, decide_true]
        go_wp2
        go_ret2
        exact ⟨_, _, rfl, fun _ => HG.out, HK.out⟩
      · rw [if_neg hE, decide_eq_false hE]
        clear hI hc hh hkp
        go_wp2
        go_ret2
        exact ⟨_, _, rfl, by simp, HK.out⟩
end Go.Proofs.YtbifmcadllilhaaGreat.Rg
namespace Go.Proofs.YtbifmcadllilhaaGreat.Rg
open Go.RowKit Go.Shelf Go.Sort
open Go.Proofs.YtbifmcadllilhaaGreat.It
set_option linter.unusedVariables false

/-- does a segment stand behind those that are laid? -/
def fol (A : List Sg) (s : Sg) : Bool := match A.getLast? with
  | none => s.lo == 0
  | some t => decide (0 < s.lo) && (s.lo - 1 == t.hi)
/-- what bars it -/
def flt (A : List Sg) (s : Sg) : Int := if fol A s = false then 62 else if s.hi < s.lo then 60 else if 16 ≤ s.h then 2 else 0

set_option maxRecDepth 100000 in
set_option maxHeartbeats 1000000 in
theorem follows_any (w : World) (base : Nat) (u : Value) (A : List Sg) (s : Sg) (hown : w.ownsRow base 38 3 u A.length (cells A)) (hA : A.length ≤ 6000000000000) (s0 : 0 ≤ s.lo) (s1 : s.lo < 18446744073709551616) :
    Calls Tryz.prog 88 #[enc s, u] w fun e w' => e = .returned (.bool (fol A s)) ∧ Kp Nu w w' := by
  have mixed : Tryz.prog.follows .mixedOrders = true := by kernel_rfl
  rcases List.eq_nil_or_concat A with rfl | ⟨A', t, rfl⟩
  · obtain ⟨ad, cap, hu⟩ := own_slice hown
    simp only [List.length_nil] at hu
    subst hu
    simp only [fol, List.getLast?_nil]
    unfold enc
    go_enter Tryz.func88, Tryz.ntmps88
    go_wp2
    go_ret
    exact ⟨rfl, Kp.alloc w _ Nu⟩
  · rw [List.concat_eq_append] at hown hA ⊢
    have ht : (A' ++ [t])[A'.length]? = some t := by simp
    have hl : (A' ++ [t]).length = A'.length + 1 := by simp
    obtain ⟨r, cap, hu, x0, x1, x2⟩ := row_at hown ht
    rw [hl] at hu hA
    have hrlt : r < w.heap.size := own_lt hown (by rw [hu]; rfl)
    have y1 : (w.alloc (.cells #[.int .u64 s.lo, .int .u64 s.hi, .int .u8 s.h] 38)).cell? ⟨r, A'.length * 3 + 1, none⟩ = some (.int .u64 t.hi) := (World.cell?_of_block (Below.heap_alloc w _ r hrlt)).trans x1
    have hfo : fol (A' ++ [t]) s = (decide (0 < s.lo) && (s.lo - 1 == t.hi)) := by simp [fol]
    rw [hfo]
    generalize A'.length = N at *
    subst hu
    clear hown x0 x1 x2 ht hl hfo
    unfold enc
    by_cases g1 : s.lo > 0
    · have g0 : decide (0 < s.lo) = true := decide_eq_true g1
      have g2 : IntKind.u64.wrap (s.lo - 1) = s.lo - 1 := by rw [IntKind.wrap_u64]; omega
      rw [g0, Bool.true_and]
      go_enter Tryz.func88, Tryz.ntmps88
      go_wp2_with fail
      go_region
      go_wp2
      go_ret
      exact ⟨rfl, (Kp.alloc w _ Nu).drew⟩
    · have g0 : decide (0 < s.lo) = false := decide_eq_false g1
      rw [g0, Bool.false_and]
      go_enter Tryz.func88, Tryz.ntmps88
      go_wp2_with fail
      go_region
      go_wp2
      go_ret
      exact ⟨rfl, (Kp.alloc w _ Nu).drew⟩

set_option maxRecDepth 100000 in
set_option maxHeartbeats 1000000 in
theorem fault_any (w : World) (base : Nat) (u : Value) (A : List Sg) (s : Sg) (hown : w.ownsRow base 38 3 u A.length (cells A)) (hA : A.length ≤ 6000000000000) (s0 : 0 ≤ s.lo) (s1 : s.lo < 18446744073709551616) :
    Calls Tryz.prog 69 #[enc s, u] w fun e w' => e = .returned (.int .i64 (flt A s)) ∧ Kp Nu w w' := by
  obtain ⟨ad, cap, hu⟩ := own_slice hown
  have KA := Kp.alloc w (.cells #[.int .u64 s.lo, .int .u64 s.hi, .int .u8 s.h] 38) Nu
  have FO := follows_any (w.alloc (.cells #[.int .u64 s.lo, .int .u64 s.hi, .int .u8 s.h] 38)) base u A s (hown.alloc _) hA s0 s1
  have HB : ∀ W, Kp Nu (w.alloc (.cells #[.int .u64 s.lo, .int .u64 s.hi, .int .u8 s.h] 38)) W → W.cell? ⟨w.heap.size, 0, none⟩ = some (.int .u64 s.lo) ∧ W.cell? ⟨w.heap.size, 1, none⟩ = some (.int .u64 s.hi) ∧ W.cell? ⟨w.heap.size, 2, none⟩ = some (.int .u8 s.h) := fun W k => cell3 ((k.block _ (blk_lt (heap_alloc_new w _)) (fun h => h)).trans (heap_alloc_new w _))
  have IH := fun W => isHost_any s.h W
  obtain ⟨f, hf⟩ : ∃ f, fol A s = f := ⟨_, rfl⟩
  have hfl : flt A s = if f = false then 62 else if s.hi < s.lo then 60 else if 16 ≤ s.h then 2 else 0 := by rw [← hf]; rfl
  rw [hfl]
  rw [hf] at FO
  clear hown hf hfl
  subst hu
  generalize A.length = NA at *
  unfold enc at FO ⊢
  cases f with
  | false =>
    rw [if_pos rfl]
    go_enter Tryz.func69, Tryz.ntmps69
    go_wp2_with fail
    refine FO.mono ?_; rintro e w2 ⟨rfl, hk2⟩
    go_wp2
    go_ret
    exact ⟨rfl, KA.andNu hk2⟩
  | true =>
    rw [if_neg (by simp)]
    by_cases hgt : s.lo > s.hi
    · rw [if_pos hgt]
      go_enter Tryz.func69, Tryz.ntmps69
      go_wp2_with fail
      refine FO.mono ?_; rintro e w2 ⟨rfl, hk2⟩
      obtain ⟨a0, a1, a2⟩ := HB _ hk2
      clear FO HB
      go_wp2
      go_ret
      exact ⟨rfl, KA.andNu hk2⟩
    · rw [if_neg (by omega)]
      by_cases hh : s.h < 16
      · rw [if_neg (by omega)]
        rw [decide_eq_true hh] at IH
        go_enter Tryz.func69, Tryz.ntmps69
        go_wp2_with fail
        refine FO.mono ?_; rintro e w2 ⟨rfl, hk2⟩
        obtain ⟨a0, a1, a2⟩ := HB _ hk2
        clear FO HB
        go_wp2_with fail
        refine (IH _).mono ?_; rintro e w3 ⟨rfl, hw3⟩
        obtain rfl := hw3.symm
        go_wp2
        go_ret
        exact ⟨rfl, KA.andNu hk2⟩
      · rw [if_pos (by omega)]
        rw [decide_eq_false hh] at IH
        go_enter Tryz.func69, Tryz.ntmps69
        go_wp2_with fail
        refine FO.mono ?_; rintro e w2 ⟨rfl, hk2⟩
        obtain ⟨a0, a1, a2⟩ := HB _ hk2
        clear FO HB
        go_wp2_with fail
        refine (IH _).mono ?_; rintro e w3 ⟨rfl, hw3⟩
        obtain rfl := hw3.symm
        go_wp2
        go_ret
        exact ⟨rfl, KA.andNu hk2⟩
end Go.Proofs.YtbifmcadllilhaaGreat.Rg
