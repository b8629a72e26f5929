import Derived.Test.YtckjededijgjgaaDoorBwD
import Derived.Test.YtckjededijgjgaaDoorJnE
namespace Go.Proofs.YtckjededijgjgaaDoor.Wo
open Go.RowKit
open Go.Proofs.YtckjededijgjgaaDoor.Pc (P4 pieces pcF Ofs)
open Go.Proofs.YtckjededijgjgaaDoor.Bw (blB isBlank_any bareG bfF)
open Go.Proofs.YtckjededijgjgaaDoor.Uq (rqG)
open Go.Proofs.YtckjededijgjgaaDoor.Jn (W3)
set_option linter.unusedVariables false

theorem hide {p : Prop} (h : p) : Hid p := h
theorem ret_nat {a b : Nat} (h : a = b) : Ending.returned (.int .i64 (a : Int)) = .returned (.int .i64 (b : Int)) := by rw [h]
/-- the first place from p on where no blank stands -/
def skipF (s : ByteArray) : Nat → Nat → Nat
  | 0, p => p
  | f + 1, p => if p < s.size ∧ blB ((s.get! p).toNat : Int) = true then skipF s f (p + 1) else p
def skp (s : ByteArray) (p : Nat) : Nat := skipF s (s.size - p) p
theorem skp_stop {s : ByteArray} {p : Nat} (h : ¬ (p < s.size ∧ blB ((s.get! p).toNat : Int) = true)) : skp s p = p := by
  unfold skp
  cases s.size - p with
  | zero => rfl
  | succ f => rw [skipF, if_neg h]
theorem skp_step {s : ByteArray} {p : Nat} (h : p < s.size) (hb : blB ((s.get! p).toNat : Int) = true) : skp s p = skp s (p + 1) := by
  unfold skp
  rw [show s.size - p = (s.size - (p + 1)) + 1 by omega, skipF, if_pos ⟨h, hb⟩]
theorem skip_le (s : ByteArray) (f : Nat) : ∀ p, p ≤ s.size → p ≤ skipF s f p ∧ skipF s f p ≤ s.size := by
  induction f with
  | zero => intro p hp; exact ⟨Nat.le_refl _, hp⟩
  | succ f ih =>
    intro p hp
    rw [skipF]
    split
    · rename_i h
      have := ih (p + 1) (by omega)
      omega
    · exact ⟨Nat.le_refl _, hp⟩
theorem skp_le {s : ByteArray} {p : Nat} (hp : p ≤ s.size) : p ≤ skp s p ∧ skp s p ≤ s.size := skip_le s _ p hp
theorem skip_not (s : ByteArray) (f : Nat) : ∀ p, s.size ≤ p + f → skipF s f p < s.size → blB ((s.get! (skipF s f p)).toNat : Int) = false := by
  induction f with
  | zero => intro p hp h; rw [skipF] at h; omega
  | succ f ih =>
    intro p hp h
    rw [skipF] at h ⊢
    split
    · rename_i hc
      rw [if_pos hc] at h
      exact ih (p + 1) (by omega) h
    · rename_i hc
      rw [if_neg hc] at h
      rw [Bool.eq_false_iff]
      exact fun e => hc ⟨h, e⟩
theorem skp_not {s : ByteArray} {p : Nat} (h : skp s p < s.size) : blB ((s.get! (skp s p)).toNat : Int) = false := skip_not s _ p (by omega) h

set_option maxHeartbeats 800000 in
theorem skipBlanks_any (s : ByteArray) (hs : s.size ≤ 4096) (p : Nat) (hp : p ≤ s.size) (w : World) :
    Calls Tryd.prog 75 #[.string s, .int .i64 (p : Int)] w fun e w' => e = .returned (.int .i64 (skp s p : Int)) ∧ w' = w := by
  have IB := fun c w => isBlank_any c w
  have ST := fun k (h : ¬ (k < s.size ∧ blB ((s.get! k).toNat : Int) = true)) => skp_stop h
  have SS := fun k (h : k < s.size) (hb : blB ((s.get! k).toNat : Int) = true) => skp_step h hb
  have HST := hide ST
  have HSS := hide SS
  clear ST SS
  obtain ⟨q, hq⟩ : ∃ q, skp s p = q := ⟨_, rfl⟩
  have HQ := hide hq
  rw [hq]
  clear hq
  have hsI : (s.size : Int) ≤ 4096 := by omega
  go_enter Tryd.func75, Tryd.ntmps75
  go_wp2_with fail
  go_loop [1] (fun kv => ∃ k : Nat, kv = .int .i64 (k : Int) ∧ k ≤ s.size ∧ Hid (skp s k = q)) (fun kv => s.size - (intOf kv).toNat)
  case atStart => exact ⟨p, rfl, hp, HQ⟩
  case round =>
    obtain ⟨k, rfl, hk, HK⟩ := hrel
    by_cases hlt : k < s.size
    · have hltI : (k : Int) < (s.size : Int) := by omega
      cases hb : blB (s[k].toNat : Int)
      · have HE : Hid (k = q) := by
          show _ = _
          rw [← HK.out, HST.out k (fun h => by rw [Pc.get_at s k hlt, hb] at h; exact absurd h.2 (by simp))]
        clear HST HSS HK HQ
        go_wp2_with fail
        refine (IB _ _).mono ?_; rintro e w2 ⟨rfl, hw⟩; obtain rfl := hw.symm
        go_wp2
        go_ret
        exact ⟨ret_nat HE.out, rfl⟩
      · have HE : Hid (skp s (k + 1) = q) := by
          show _ = _
          rw [← HK.out, HSS.out k hlt (by rw [Pc.get_at s k hlt]; exact hb)]
        clear HST HSS HK HQ
        go_wp2_with fail
        refine (IB _ _).mono ?_; rintro e w2 ⟨rfl, hw⟩; obtain rfl := hw.symm
        go_wp2
        exact ⟨⟨k + 1, by go_num, by omega, HE⟩, by simp [intOf]; omega⟩
    · have hge : ¬ (k : Int) < (s.size : Int) := by omega
      have HE : Hid (k = q) := by
        show _ = _
        rw [← HK.out, HST.out k (fun h => hlt h.1)]
      clear HST HSS HK HQ
      go_wp2
      go_ret
      exact ⟨ret_nat HE.out, rfl⟩

theorem rq_place (s : ByteArray) : ∀ (l : List P4), (∀ x ∈ l, Ofs s x) → ∀ (nx : Int) (acc : List UInt8), 0 ≤ (rqG s l nx acc).2.1 ∧ (rqG s l nx acc).2.1 ≤ (s.size : Int) := by
  intro l
  induction l with
  | nil => intro _ nx acc; rw [Uq.rqG]; exact ⟨by show (0 : Int) ≤ (s.size : Int); omega, Int.le_refl _⟩
  | cons x t ih =>
    intro h nx acc
    obtain ⟨pos, hp, hx⟩ := (h x (by simp)).place
    have iht := ih (fun y hy => h y (by simp [hy]))
    have hb : 0 ≤ x.2.1 ∧ x.2.1 + 1 ≤ (s.size : Int) := by omega
    clear hx hp h ih
    rw [Uq.rqG]
    generalize Uq.escAt s x.2.1 = E at *
    generalize Qt.ownB s x = O at *
    by_cases c1 : x.2.1 < nx
    · rw [if_pos c1]; exact iht _ _
    rw [if_neg c1]
    by_cases c2 : x.2.2.2 = true
    · rw [if_pos c2]; exact ⟨by show 0 ≤ x.2.1; omega, by show x.2.1 ≤ _; omega⟩
    rw [if_neg c2]
    by_cases c3 : x.1 = 34
    · rw [if_pos c3]; exact ⟨by show 0 ≤ x.2.1 + 1; omega, by show x.2.1 + 1 ≤ _; omega⟩
    rw [if_neg c3]
    by_cases c4 : x.1 = 92
    · rw [if_pos c4]
      by_cases c5 : E.2 = 0
      · rw [if_pos c5]; exact ⟨by show 0 ≤ x.2.1; omega, by show x.2.1 ≤ _; omega⟩
      · rw [if_neg c5]; exact iht _ _
    rw [if_neg c4]
    by_cases c6 : Enc.plainF x.1 = true
    · rw [if_pos c6]; exact iht _ _
    · rw [if_neg c6]; exact ⟨by show 0 ≤ x.2.1; omega, by show x.2.1 ≤ _; omega⟩
theorem bare_place (s : ByteArray) : ∀ (l : List P4), (∀ x ∈ l, Ofs s x) → 0 ≤ (bareG s l).2.1 ∧ (bareG s l).2.1 ≤ (s.size : Int) := by
  intro l
  induction l with
  | nil => intro _; rw [Bw.bareG]; exact ⟨by show (0 : Int) ≤ (s.size : Int); omega, Int.le_refl _⟩
  | cons x t ih =>
    intro h
    obtain ⟨pos, hp, hx⟩ := (h x (by simp)).place
    have iht := ih (fun y hy => h y (by simp [hy]))
    have hb : 0 ≤ x.2.1 ∧ x.2.1 + 1 ≤ (s.size : Int) := by omega
    clear hx hp h ih
    rw [Bw.bareG]
    split
    · exact ⟨by show 0 ≤ x.2.1; omega, by show x.2.1 ≤ _; omega⟩
    · split
      · exact iht
      · exact ⟨by show 0 ≤ x.2.1; omega, by show x.2.1 ≤ _; omega⟩

/-- what stands from a place on -/
def tailS (s : ByteArray) (p : Nat) : ByteArray := s.extract p s.size
/-- a word's text, size, error, by its first byte -/
def rdF (s : ByteArray) (p : Nat) : List UInt8 × Int × Int := if s.get! p = 34 then rqG (tailS s p) (pieces (tailS s p)) 1 [] else bareG (tailS s p) (pieces (tailS s p))
theorem tail_size (s : ByteArray) (p : Nat) : (tailS s p).size = s.size - p := by unfold tailS; rw [ByteArray.size_extract]; omega
theorem rd_place (s : ByteArray) (p : Nat) : 0 ≤ (rdF s p).2.1 ∧ (rdF s p).2.1 ≤ ((s.size - p : Nat) : Int) := by
  rw [← tail_size]
  unfold rdF
  split
  · exact rq_place _ _ (Qt.pieces_ofs _) _ _
  · exact bare_place _ _ (Qt.pieces_ofs _)
/-- what readWord answers: the word, a place, an error -/
def rwF (s : ByteArray) (p : Nat) : W3 × Nat × Int :=
  if (rdF s p).2.2 ≠ 0 then ((⟨#[]⟩, false, 0), p + (rdF s p).2.1.toNat, (rdF s p).2.2)
  else if s.get! p = 34 ∧ p + (rdF s p).2.1.toNat < s.size ∧ blB ((s.get! (p + (rdF s p).2.1.toNat)).toNat : Int) = false then ((⟨#[]⟩, false, 0), p + (rdF s p).2.1.toNat, 11)
  else ((⟨(rdF s p).1.toArray⟩, decide (s.get! p = 34), (p : Int)), p + (rdF s p).2.1.toNat, 0)
theorem rw_place {s : ByteArray} {p : Nat} (hp : p ≤ s.size) : (rwF s p).2.1 = p + (rdF s p).2.1.toNat ∧ (rwF s p).2.1 ≤ s.size := by
  have h := rd_place s p
  have e : (rwF s p).2.1 = p + (rdF s p).2.1.toNat := by
    unfold rwF
    split
    · rfl
    · split <;> rfl
  exact ⟨e, by rw [e]; omega⟩
/-- the words from a place on -/
def wrdG (s : ByteArray) : Nat → Nat → List W3 → List W3 × Int × Int
  | 0, _, acc => (acc, 0, 0)
  | f + 1, q, acc =>
    if q < s.size ∧ s.get! q ≠ 35 then
      if acc.length = 64 then ([], (q : Int), 18)
      else if (rwF s q).2.2 ≠ 0 then ([], ((rwF s q).2.1 : Int), (rwF s q).2.2)
      else wrdG s f (skp s (rwF s q).2.1) (acc ++ [(rwF s q).1])
    else (acc, 0, 0)
/-- what Words answers -/
def wordsG (s : ByteArray) : List W3 × Int × Int := if 4096 < s.size then ([], 4096, 10) else wrdG s 65 (skp s 0) []
end Go.Proofs.YtckjededijgjgaaDoor.Wo
namespace Go.Proofs.YtckjededijgjgaaDoor.Wo
open Go.RowKit
open Go.Proofs.YtckjededijgjgaaDoor.Pc (P4 pieces)
open Go.Proofs.YtckjededijgjgaaDoor.Bw (blB isBlank_any bareG readBare_any)
open Go.Proofs.YtckjededijgjgaaDoor.Uq (rqG readQuoted_any)
open Go.Proofs.YtckjededijgjgaaDoor.Jn (W3)
open Go.Proofs.YtckjededijgjgaaDoor.Enc (Spans)
set_option linter.unusedVariables false

/-- a word, a place, an error: as they are answered -/
def rwV (r : W3 × Nat × Int) : Value := .tuple #[.agg #[.string r.1.1, .bool r.1.2.1, .int .i64 r.1.2.2], .int .i64 (r.2.1 : Int), .int .i64 r.2.2]
theorem quote_iff {s : ByteArray} {p : Nat} (h : p < s.size) : s.get! p = 34 ↔ (s[p].toNat : Int) = 34 := by
  rw [Pc.get_at s p h]
  constructor
  · intro e; rw [e]; rfl
  · intro e; exact UInt8.toNat_inj.1 (by simpa using (by omega : s[p].toNat = 34))
theorem cell_box {w w1 : World} {c : Array Value} (hb : Below (w.alloc (.cells c 40)).heap.size (w.alloc (.cells c 40)) w1) : w1.heap[w.heap.size]? = some (.cells c 40 (0, 0)) :=
  (hb.block w.heap.size (by simp)).trans (World.alloc_heap_new w _)

theorem set_three {w1 : World} {g : Nat} {x y z : Value} (h : w1.heap[g]? = some (.cells #[x, y, z] 40 (0, 0))) (a b c : Value) :
    (((w1.setCell ⟨g, 0, none⟩ a).setCell ⟨g, 1, none⟩ b).setCell ⟨g, 2, none⟩ c).cell? ⟨g, 0, none⟩ = some a ∧ (((w1.setCell ⟨g, 0, none⟩ a).setCell ⟨g, 1, none⟩ b).setCell ⟨g, 2, none⟩ c).cell? ⟨g, 1, none⟩ = some b ∧ (((w1.setCell ⟨g, 0, none⟩ a).setCell ⟨g, 1, none⟩ b).setCell ⟨g, 2, none⟩ c).cell? ⟨g, 2, none⟩ = some c := by
  have h1 := heap_setCell_same w1 g 0 _ 40 a h
  have h2 := heap_setCell_same _ g 1 _ 40 b h1
  have h3 := heap_setCell_same _ g 2 _ 40 c h2
  refine ⟨?_, ?_, ?_⟩ <;> simp [World.cell?, h3]

set_option maxRecDepth 100000 in
set_option maxHeartbeats 2000000 in
theorem readWord_any (s : ByteArray) (hs : s.size ≤ 4096) (p : Nat) (hp : p < s.size) (w : World) (R off cap : Nat) (hS : Spans w R off cap) :
    Calls Tryd.prog 76 #[.string s, .int .i64 (p : Int)] w fun e w' => e = .returned (rwV (rwF s p)) ∧ Below w.heap.size w w' := by
  have hbw := (Below.refl w.heap.size w).alloc (Nat.le_refl _) (.cells #[.string ⟨#[]⟩, .bool false, .int .i64 0] 40)
  have hS1 := hS.below hbw (Nat.le_refl _)
  have hts := tail_size s p
  have RB := readBare_any (tailS s p) (by omega) _ R off cap hS1
  have RQ := readQuoted_any (tailS s p) (by omega) _ R off cap hS1
  have IB := fun c w => isBlank_any c w
  have hpl := rd_place s p
  have hqi := quote_iff hp
  have hpI : (p : Int) < (s.size : Int) := by omega
  have hsI : (s.size : Int) ≤ 4096 := by omega
  have hpN : p ≤ s.size := by omega
  unfold rwF
  have hrd : (s.get! p = 34 → rqG (tailS s p) (pieces (tailS s p)) 1 [] = rdF s p) ∧ (s.get! p ≠ 34 → bareG (tailS s p) (pieces (tailS s p)) = rdF s p) := by
    unfold rdF
    exact ⟨fun h => by rw [if_pos h], fun h => by rw [if_neg h]⟩
  have RD : Calls Tryd.prog (if s.get! p = 34 then 71 else 97) #[.string (tailS s p)] (w.alloc (.cells #[.string ⟨#[]⟩, .bool false, .int .i64 0] 40)) fun e W' => e = .returned (.tuple #[.string ⟨(rdF s p).1.toArray⟩, .int .i64 (rdF s p).2.1, .int .i64 (rdF s p).2.2]) ∧ Below (w.alloc (.cells #[.string ⟨#[]⟩, .bool false, .int .i64 0] 40)).heap.size (w.alloc (.cells #[.string ⟨#[]⟩, .bool false, .int .i64 0] 40)) W' := by
    by_cases h : s.get! p = 34
    · rw [if_pos h, ← hrd.1 h]; exact RQ
    · rw [if_neg h, ← hrd.2 h]; exact RB
  clear RB RQ hrd hts
  unfold tailS at RD
  generalize rdF s p = rd at *
  obtain ⟨tx, sz, er⟩ := rd
  simp only at hpl RD ⊢
  obtain ⟨z, rfl⟩ : ∃ z : Nat, sz = (z : Int) := ⟨sz.toNat, by omega⟩
  have hzI : (p : Int) + (z : Int) ≤ (s.size : Int) := by omega
  rw [show ((z : Int)).toNat = z from rfl]
  have hz4 : (z : Int) ≤ 4096 := by omega
  clear hpl
  have HB : Hid (∀ w1, Below (w.alloc (.cells #[.string ⟨#[]⟩, .bool false, .int .i64 0] 40)).heap.size (w.alloc (.cells #[.string ⟨#[]⟩, .bool false, .int .i64 0] 40)) w1 → ∀ a b c, Below w.heap.size w (((w1.setCell ⟨w.heap.size, 0, none⟩ a).setCell ⟨w.heap.size, 1, none⟩ b).setCell ⟨w.heap.size, 2, none⟩ c)) := by
    intro w1 hb1 a b c
    exact (((hbw.trans (hb1.mono (by simp))).setCell (p := ⟨w.heap.size, 0, none⟩) (Nat.le_refl _) _).setCell (p := ⟨w.heap.size, 1, none⟩) (Nat.le_refl _) _).setCell (p := ⟨w.heap.size, 2, none⟩) (Nat.le_refl _) _
  clear hS1 hS
  by_cases hq : s.get! p = 34
  · have bq : ((s[p].toNat : Int) == 34) = true := by rw [hqi.1 hq]; rfl
    rw [if_pos hq] at RD
    have dq : decide (s.get! p = 34) = true := by simp [hq]
    rw [dq]
    clear hqi dq
    by_cases he : er = 0
    · rw [if_neg (by simp [he])]
      subst he
      by_cases hend : p + z < s.size
      · have hendI : (p : Int) + (z : Int) < (s.size : Int) := by omega
        cases hb : blB (s[p + z].toNat : Int)
        · rw [if_pos ⟨hq, hend, by rw [Pc.get_at s (p + z) hend]; exact hb⟩]
          clear hq
          go_enter Tryd.func76, Tryd.ntmps76
          go_wp2_with fail
          refine RD.mono ?_; rintro e w1 ⟨rfl, hb1⟩
          have hbx := cell_box hb1
          have k0 : w1.cell? ⟨w.heap.size, 0, none⟩ = some (.string ⟨#[]⟩) := by simp [World.cell?, hbx]
          have k1 : w1.cell? ⟨w.heap.size, 1, none⟩ = some (.bool false) := by simp [World.cell?, hbx]
          have k2 : w1.cell? ⟨w.heap.size, 2, none⟩ = some (.int .i64 0) := by simp [World.cell?, hbx]
          have z0 := frozen_of_row w1 w.heap.size 0 _ 40 hbx
          have z1 := frozen_of_row w1 w.heap.size 1 _ 40 hbx
          have z2 := frozen_of_row w1 w.heap.size 2 _ 40 hbx
          have HB1 := hide (HB.out w1 hb1)
          have HR3 := hide (set_three hbx)
          clear RD hbx
          go_wp2_with fail
          refine (IB _ _).mono ?_; rintro e w2 ⟨rfl, hw⟩; obtain rfl := hw.symm
          go_wp2
          obtain ⟨r0, r1, r2⟩ := HR3.out (.string ⟨#[]⟩) (.bool false) (.int .i64 0)
          exact bodyPost_ret (v := .tuple #[.agg #[.string ⟨#[]⟩, .bool false, .int .i64 0], .int .i64 ((p + z : Nat) : Int), .int .i64 11]) (by simp [results, Tryd.results76, go_sem, r0, r1, r2]) rfl ⟨rfl, HB1.out _ _ _⟩
        · rw [if_neg (fun h => by rw [Pc.get_at s (p + z) hend, hb] at h; exact absurd h.2.2 (by simp))]
          clear hq
          go_enter Tryd.func76, Tryd.ntmps76
          go_wp2_with fail
          refine RD.mono ?_; rintro e w1 ⟨rfl, hb1⟩
          have hbx := cell_box hb1
          have k0 : w1.cell? ⟨w.heap.size, 0, none⟩ = some (.string ⟨#[]⟩) := by simp [World.cell?, hbx]
          have k1 : w1.cell? ⟨w.heap.size, 1, none⟩ = some (.bool false) := by simp [World.cell?, hbx]
          have k2 : w1.cell? ⟨w.heap.size, 2, none⟩ = some (.int .i64 0) := by simp [World.cell?, hbx]
          have z0 := frozen_of_row w1 w.heap.size 0 _ 40 hbx
          have z1 := frozen_of_row w1 w.heap.size 1 _ 40 hbx
          have z2 := frozen_of_row w1 w.heap.size 2 _ 40 hbx
          have HB1 := hide (HB.out w1 hb1)
          have HR3 := hide (set_three hbx)
          clear RD hbx
          go_wp2_with fail
          refine (IB _ _).mono ?_; rintro e w2 ⟨rfl, hw⟩; obtain rfl := hw.symm
          go_wp2
          obtain ⟨r0, r1, r2⟩ := HR3.out (.string ⟨tx.toArray⟩) (.bool true) (.int .i64 (p : Int))
          exact bodyPost_ret (v := .tuple #[.agg #[.string ⟨tx.toArray⟩, .bool true, .int .i64 (p : Int)], .int .i64 ((p + z : Nat) : Int), .int .i64 0]) (by simp [results, Tryd.results76, go_sem, r0, r1, r2]) rfl ⟨rfl, HB1.out _ _ _⟩
      · have hendI : ¬ (p : Int) + (z : Int) < (s.size : Int) := by omega
        rw [if_neg (fun h => hend h.2.1)]
        clear hq
        go_enter Tryd.func76, Tryd.ntmps76
        go_wp2_with fail
        refine RD.mono ?_; rintro e w1 ⟨rfl, hb1⟩
        have hbx := cell_box hb1
        have k0 : w1.cell? ⟨w.heap.size, 0, none⟩ = some (.string ⟨#[]⟩) := by simp [World.cell?, hbx]
        have k1 : w1.cell? ⟨w.heap.size, 1, none⟩ = some (.bool false) := by simp [World.cell?, hbx]
        have k2 : w1.cell? ⟨w.heap.size, 2, none⟩ = some (.int .i64 0) := by simp [World.cell?, hbx]
        have z0 := frozen_of_row w1 w.heap.size 0 _ 40 hbx
        have z1 := frozen_of_row w1 w.heap.size 1 _ 40 hbx
        have z2 := frozen_of_row w1 w.heap.size 2 _ 40 hbx
        have HB1 := hide (HB.out w1 hb1)
        have HR3 := hide (set_three hbx)
        clear RD hbx
        go_wp2
        obtain ⟨r0, r1, r2⟩ := HR3.out (.string ⟨tx.toArray⟩) (.bool true) (.int .i64 (p : Int))
        exact bodyPost_ret (v := .tuple #[.agg #[.string ⟨tx.toArray⟩, .bool true, .int .i64 (p : Int)], .int .i64 ((p + z : Nat) : Int), .int .i64 0]) (by simp [results, Tryd.results76, go_sem, r0, r1, r2]) rfl ⟨rfl, HB1.out _ _ _⟩
    · rw [if_pos he]
      have be : (er != 0) = true := by rw [bne_iff_ne]; exact he
      clear hq he
      go_enter Tryd.func76, Tryd.ntmps76
      go_wp2_with fail
      refine RD.mono ?_; rintro e w1 ⟨rfl, hb1⟩
      have hbx := cell_box hb1
      have k0 : w1.cell? ⟨w.heap.size, 0, none⟩ = some (.string ⟨#[]⟩) := by simp [World.cell?, hbx]
      have k1 : w1.cell? ⟨w.heap.size, 1, none⟩ = some (.bool false) := by simp [World.cell?, hbx]
      have k2 : w1.cell? ⟨w.heap.size, 2, none⟩ = some (.int .i64 0) := by simp [World.cell?, hbx]
      have z0 := frozen_of_row w1 w.heap.size 0 _ 40 hbx
      have z1 := frozen_of_row w1 w.heap.size 1 _ 40 hbx
      have z2 := frozen_of_row w1 w.heap.size 2 _ 40 hbx
      have HB1 := hide (HB.out w1 hb1)
      have HR3 := hide (set_three hbx)
      clear RD hbx
      go_wp2
      obtain ⟨r0, r1, r2⟩ := HR3.out (.string ⟨#[]⟩) (.bool false) (.int .i64 0)
      exact bodyPost_ret (v := .tuple #[.agg #[.string ⟨#[]⟩, .bool false, .int .i64 0], .int .i64 ((p + z : Nat) : Int), .int .i64 er]) (by simp [results, Tryd.results76, go_sem, r0, r1, r2]) rfl ⟨rfl, HB1.out _ _ _⟩
  · have bq : ((s[p].toNat : Int) == 34) = false := beq_eq_false_iff_ne.2 (fun e => hq (hqi.2 e))
    rw [if_neg hq] at RD
    have dq : decide (s.get! p = 34) = false := by simp [hq]
    rw [dq]
    clear hqi dq
    by_cases he : er = 0
    · rw [if_neg (by simp [he]), if_neg (fun h => hq h.1)]
      subst he
      clear hq
      go_enter Tryd.func76, Tryd.ntmps76
      go_wp2_with fail
      refine RD.mono ?_; rintro e w1 ⟨rfl, hb1⟩
      have hbx := cell_box hb1
      have k0 : w1.cell? ⟨w.heap.size, 0, none⟩ = some (.string ⟨#[]⟩) := by simp [World.cell?, hbx]
      have k1 : w1.cell? ⟨w.heap.size, 1, none⟩ = some (.bool false) := by simp [World.cell?, hbx]
      have k2 : w1.cell? ⟨w.heap.size, 2, none⟩ = some (.int .i64 0) := by simp [World.cell?, hbx]
      have z0 := frozen_of_row w1 w.heap.size 0 _ 40 hbx
      have z1 := frozen_of_row w1 w.heap.size 1 _ 40 hbx
      have z2 := frozen_of_row w1 w.heap.size 2 _ 40 hbx
      have HB1 := hide (HB.out w1 hb1)
      have HR3 := hide (set_three hbx)
      clear RD hbx
      go_wp2
      obtain ⟨r0, r1, r2⟩ := HR3.out (.string ⟨tx.toArray⟩) (.bool false) (.int .i64 (p : Int))
      exact bodyPost_ret (v := .tuple #[.agg #[.string ⟨tx.toArray⟩, .bool false, .int .i64 (p : Int)], .int .i64 ((p + z : Nat) : Int), .int .i64 0]) (by simp [results, Tryd.results76, go_sem, r0, r1, r2]) rfl ⟨rfl, HB1.out _ _ _⟩
    · rw [if_pos he]
      have be : (er != 0) = true := by rw [bne_iff_ne]; exact he
      clear hq he
      go_enter Tryd.func76, Tryd.ntmps76
      go_wp2_with fail
      refine RD.mono ?_; rintro e w1 ⟨rfl, hb1⟩
      have hbx := cell_box hb1
      have k0 : w1.cell? ⟨w.heap.size, 0, none⟩ = some (.string ⟨#[]⟩) := by simp [World.cell?, hbx]
      have k1 : w1.cell? ⟨w.heap.size, 1, none⟩ = some (.bool false) := by simp [World.cell?, hbx]
      have k2 : w1.cell? ⟨w.heap.size, 2, none⟩ = some (.int .i64 0) := by simp [World.cell?, hbx]
      have z0 := frozen_of_row w1 w.heap.size 0 _ 40 hbx
      have z1 := frozen_of_row w1 w.heap.size 1 _ 40 hbx
      have z2 := frozen_of_row w1 w.heap.size 2 _ 40 hbx
      have HB1 := hide (HB.out w1 hb1)
      have HR3 := hide (set_three hbx)
      clear RD hbx
      go_wp2
      obtain ⟨r0, r1, r2⟩ := HR3.out (.string ⟨#[]⟩) (.bool false) (.int .i64 0)
      exact bodyPost_ret (v := .tuple #[.agg #[.string ⟨#[]⟩, .bool false, .int .i64 0], .int .i64 ((p + z : Nat) : Int), .int .i64 er]) (by simp [results, Tryd.results76, go_sem, r0, r1, r2]) rfl ⟨rfl, HB1.out _ _ _⟩
end Go.Proofs.YtckjededijgjgaaDoor.Wo
namespace Go.Proofs.YtckjededijgjgaaDoor.Wo
open Go.RowKit
open Go.Proofs.YtckjededijgjgaaDoor.Jn (W3 cells3 cellsW cellsW_snoc new3 one3 info40 own3_grown ws_of)
open Go.Proofs.YtckjededijgjgaaDoor.Enc (Spans)
set_option linter.unusedVariables false

def slen : Value → Nat
  | .slice _ n _ => n
  | _ => 0
theorem hash_iff {s : ByteArray} {p : Nat} (h : p < s.size) : s.get! p = 35 ↔ (s[p].toNat : Int) = 35 := by
  rw [Pc.get_at s p h]
  constructor
  · intro e; rw [e]; rfl
  · intro e; exact UInt8.toNat_inj.1 (by simpa using (by omega : s[p].toNat = 35))
theorem own40_below {w w' : World} {base n : Nat} {v : Value} {l : List Value} {t : TypeId} (h : w.ownsRow base t 3 v n l) (hb : Below w.heap.size w w') : w'.ownsRow base t 3 v n l := by
  obtain ⟨hl, ho⟩ := h
  refine ⟨hl, ?_⟩
  rcases ho with ho | ⟨g, cap, cur, e1, e2, hg, e3⟩
  · exact .inl ho
  · exact .inr ⟨g, cap, cur, e1, e2, (hb.block g (Array.getElem?_eq_some_iff.1 hg).1).trans hg, e3⟩
/-- what Words answers, in memory -/
def WA (w : World) (R : List W3 × Int × Int) (e : Ending) (w' : World) : Prop :=
  ∃ v, e = .returned (.tuple #[v, .int .i64 R.2.1, .int .i64 R.2.2]) ∧ w'.ownsRow w.heap.size 40 3 v R.1.length (cellsW R.1) ∧ Below w.heap.size w w'
theorem WA.none {w w' : World} {a e : Int} (hb : Below w.heap.size w w') : WA w ([], a, e) (.returned (.tuple #[.slice none 0 0, .int .i64 a, .int .i64 e])) w' :=
  ⟨_, rfl, World.ownsRow_nil _ _ _ _, hb⟩

set_option maxRecDepth 100000 in
set_option maxHeartbeats 4000000 in
theorem words_any (s : ByteArray) (w : World) (R off cap : Nat) (hS : Spans w R off cap) :
    Calls Tryd.prog 38 #[.string s] w fun e w' => WA w (wordsG s) e w' := by
  obtain ⟨i0, hi0, hz0, hz1, hz2⟩ := info_parts info40
  unfold wordsG
  by_cases hbig : 4096 < s.size
  · rw [if_pos hbig]
    have hbI : (4096 : Int) < (s.size : Int) := by omega
    clear hbig
    go_enter Tryd.func38, Tryd.ntmps38
    go_wp2
    go_ret3
    exact WA.none (Below.refl _ _)
  rw [if_neg hbig]
  have hs : s.size ≤ 4096 := by omega
  have hsI : (s.size : Int) ≤ 4096 := by omega
  have hsI2 : ¬ (4096 : Int) < (s.size : Int) := by omega
  have SB := fun p hp w => skipBlanks_any s hs p hp w
  have RW := fun p hp w' (hb : Below w.heap.size w w') => readWord_any s hs p hp w' R off cap (hS.below hb (Nat.le_refl _))
  have RP := fun p (hp : p ≤ s.size) => rw_place hp
  have SL := fun p (hp : p ≤ s.size) => skp_le hp
  have HSB := hide SB
  have HRW := hide RW
  have HRP := hide RP
  have HSL := hide SL
  clear SB RW RP SL hbig hS
  obtain ⟨A, hA⟩ : ∃ A, wrdG s 65 (skp s 0) [] = A := ⟨_, rfl⟩
  have HA := hide hA
  rw [hA]
  clear hA
  have S0 := HSB.out 0 (Nat.zero_le _) w
  have hq0 := (HSL.out 0 (Nat.zero_le _)).2
  go_enter Tryd.func38, Tryd.ntmps38
  go_wp2_with fail
  refine S0.mono ?_; rintro e w1 ⟨rfl, hw⟩; obtain rfl := hw.symm
  clear S0
  go_wp2_with fail
  go_loopw [5, 6] (fun v av wr => ∃ (q f : Nat) (acc : List W3), av = .int .i64 (q : Int) ∧ q ≤ s.size ∧ acc.length ≤ 64 ∧ f + acc.length = 65 ∧ wr.ownsRow w.heap.size 40 3 v acc.length (cellsW acc) ∧ Below w.heap.size w wr ∧ Hid (wrdG s f q acc = A)) (fun v _ _ => 65 - slen v)
  case atStart => exact ⟨_, 65, [], rfl, hq0, by simp, by simp, World.ownsRow_nil _ _ _ _, Below.refl _ _, HA⟩
  case round =>
    obtain ⟨q, f, acc, rfl, hq, hal, hfa, hrow, hB, HI⟩ := hrel
    clear hq0 HA
    have hBs := hB.size
    obtain ⟨ad, cp, hv, _⟩ := ws_of hrow
    subst hv
    obtain ⟨f, rfl⟩ : ∃ g, f = g + 1 := ⟨f - 1, by omega⟩
    by_cases hlt : q < s.size
    · have hltI : (q : Int) < (s.size : Int) := by omega
      have hhi := hash_iff hlt
      by_cases h35 : s.get! q = 35
      · have b35 : ((s[q].toNat : Int) != 35) = false := by rw [hhi.1 h35]; rfl
        have HE : Hid (A = (acc, 0, 0)) := by
          show _ = _
          rw [← HI.out, wrdG, if_neg (fun h => h.2 h35)]
        clear HI HSB HRW HRP HSL h35 hhi
        go_wp2
        go_ret3
        rw [HE.out]
        exact ⟨_, rfl, hrow, hB⟩
      · have b35 : ((s[q].toNat : Int) != 35) = true := by rw [bne_iff_ne]; exact fun e => h35 (hhi.2 e)
        have HI1 : Hid (A = if acc.length = 64 then ([], (q : Int), 18) else if (rwF s q).2.2 ≠ 0 then ([], ((rwF s q).2.1 : Int), (rwF s q).2.2) else wrdG s f (skp s (rwF s q).2.1) (acc ++ [(rwF s q).1])) := by
          show _ = _
          rw [← HI.out, wrdG, if_pos ⟨hlt, h35⟩]
        clear HI h35 hhi
        by_cases h64 : acc.length = 64
        · have b64 : ((acc.length : Int) == 64) = true := by rw [h64]; rfl
          have HE : Hid (A = ([], (q : Int), 18)) := by show _ = _; rw [HI1.out, if_pos h64]
          clear HI1 HSB HRW HRP HSL h64 hfa hal
          generalize acc.length = M at *
          go_wp2
          go_ret3
          rw [HE.out]
          exact WA.none hB
        · have b64 : ((acc.length : Int) == 64) = false := by rw [beq_eq_false_iff_ne]; omega
          have RW1 := HRW.out q hlt wr hB
          obtain ⟨rp1, rp2⟩ := HRP.out q hq
          have SB1 := fun W => HSB.out (rwF s q).2.1 rp2 W
          have hsk := (HSL.out (rwF s q).2.1 rp2).2
          have HI2 : Hid (A = if (rwF s q).2.2 ≠ 0 then ([], ((rwF s q).2.1 : Int), (rwF s q).2.2) else wrdG s f (skp s (rwF s q).2.1) (acc ++ [(rwF s q).1])) := by
            show _ = _
            rw [HI1.out, if_neg h64]
          have hal2 : acc.length + 1 ≤ 64 := by omega
          clear HI1 HSB HRW HRP HSL rp1
          generalize rwF s q = rw1 at *
          obtain ⟨x, en, er⟩ := rw1
          simp only at HI2 SB1 hsk rp2
          have hRW : Calls Tryd.prog 76 #[.string s, .int .i64 (q : Int)] wr fun e w' => e = .returned (.tuple #[.agg #[.string x.1, .bool x.2.1, .int .i64 x.2.2], .int .i64 (en : Int), .int .i64 er]) ∧ Below wr.heap.size wr w' := RW1
          clear RW1
          by_cases he : er = 0
          · have be : (er != 0) = false := by rw [he]; rfl
            have HI3 : Hid (wrdG s f (skp s en) (acc ++ [x]) = A) := by
              show _ = _
              rw [HI2.out, if_neg (by simp [he])]
            clear HI2 he h64
            have hNN := hide hal2
            have HFA := hide hfa
            clear hal hfa hal2
            have HLN : Hid ((acc ++ [x]).length = acc.length + 1) := by show _ = _; simp
            have HCW := hide (cellsW_snoc acc x)
            generalize hAA : acc ++ [x] = acc2 at *
            generalize hM : acc.length = M at *
            go_wp2_with fail
            refine hRW.mono ?_; rintro e w2 ⟨rfl, hb2⟩
            have hrow2 := own40_below hrow hb2
            have hB2 := hB.trans (hb2.mono hB.size)
            have hBs2 := hB2.size
            go_wp2_with (first | (at_builtin; refine wpList_append_own _ rfl _ _ 37 rfl w.heap.size 40 i0 _ 3 32 Tryd.underlying37 hi0 hz0 hz1 hz2 rfl (by decide) _ _ _ rfl ((hrow2.alloc _).alloc _) ⟨w2.heap.size + 1, 0, none⟩ 1 1 (cells3 x) rfl rfl (fun j u h => by have := new3 (w2.alloc (.cells #[.string x.1, .bool x.2.1, .int .i64 x.2.2] 40)) x 40 j u h; simpa using this) (one3 x) ?sa ?sb ?sc ?_; rotate_left 3; intro v3 w3 hown3 hgrow3 _))
            case sa => unfold maxLen; have := hNN.out; omega
            case sb => have := hNN.out; omega
            case sc => simp; omega
            have hB3 := own3_grown ((hrow2.alloc _).alloc _) ((hB2.alloc hB2.size _).alloc (by simp; omega) _) (by simp; omega) hgrow3
            refine (SB1 _).mono ?_; rintro e w4 ⟨rfl, hw⟩; obtain rfl := hw.symm
            go_wp2
            have h1 := hNN.out
            have h2 := HFA.out
            have h3 := HLN.out
            refine ⟨⟨_, f, acc2, rfl, hsk, by omega, by omega, ?_, hB3, HI3⟩, ?_⟩
            · rw [h3, HCW.out]
              exact hown3
            · obtain ⟨p3, c3, hv3, _⟩ := ws_of (l := acc2) (by rw [h3, HCW.out]; exact hown3)
              rw [hv3]
              simp only [slen]
              omega
          · have be : (er != 0) = true := by rw [bne_iff_ne]; exact he
            have HE : Hid (A = ([], (en : Int), er)) := by
              show _ = _
              rw [HI2.out, if_pos he]
            clear HI2 he h64 SB1
            generalize acc.length = M at *
            go_wp2_with fail
            refine hRW.mono ?_; rintro e w2 ⟨rfl, hb2⟩
            go_wp2
            go_ret3
            rw [HE.out]
            exact WA.none ((hB.trans (hb2.mono hB.size)).alloc (by have := (hB.trans (hb2.mono hB.size)).size; omega) _)
    · have hge : ¬ (q : Int) < (s.size : Int) := by omega
      have HE : Hid (A = (acc, 0, 0)) := by
        show _ = _
        rw [← HI.out, wrdG, if_neg (fun h => hlt h.1)]
      clear HI HSB HRW HRP HSL
      go_wp2
      go_ret3
      rw [HE.out]
      exact ⟨_, rfl, hrow, hB⟩
end Go.Proofs.YtckjededijgjgaaDoor.Wo
namespace Go.Proofs.YtckjededijgjgaaDoor.Wo
open Go.Proofs.YtckjededijgjgaaDoor.Pc (P4 pieces piecesFrom piecesFrom_end pcF encAt isEnc width_le Ofs pc_cases)
open Go.Proofs.YtckjededijgjgaaDoor.Bw (blB bareG bfF bareOk)
open Go.Proofs.YtckjededijgjgaaDoor.Uq (rqG)
open Go.Proofs.YtckjededijgjgaaDoor.Jn (W3 joinG lineA wordL badW joinG_bad joinG_good)
open Go.Proofs.YtckjededijgjgaaDoor.Qt (prn qS quoteL ownB)
open Go.Proofs.YtckjededijgjgaaDoor.Hx (hexL hexL_len)
set_option linter.unusedVariables false

theorem prn_six' (own : List UInt8) (r : Int) (br : Bool) (k : Nat) (hk : 1 ≤ k) (hk4 : k ≤ 4) (ho : own.length ≤ k) (h0 : 0 ≤ r) (h1 : r ≤ 1114111) (h255 : k = 1 → r ≤ 255) : (prn own r br).length ≤ 6 * k := by
  by_cases e : k = 1
  · have hr := h255 e
    have hh : (hexL r.toNat).length ≤ 2 := (hexL_len 1 _ (by have : (16 : Nat) ^ (1 + 1) = 256 := by decide
                                                             omega)).2
    unfold Qt.prn
    repeat' split
    all_goals simp
    all_goals omega
  · have := Qt.prn_len own r br (by omega) h0 h1
    omega
theorem byte_le (c : UInt8) : ((c.toNat : Nat) : Int) ≤ 255 := by have := c.toNat_lt; omega
/-- what is printed of a piece: at most six bytes a byte -/
theorem prn_six {s : ByteArray} {pos : Nat} (hp : pos < s.size) : (prn (ownB s (pcF s pos)).data.toList (pcF s pos).1 (pcF s pos).2.2.2).length ≤ 6 * (Utf8.decode s pos).2 := by
  have hw := width_le s pos hp
  have hend := Wd.pcF_end s pos
  have hr := Wd.pcF_range s pos
  have ho : (ownB s (pcF s pos)).data.toList.length ≤ (Utf8.decode s pos).2 := by
    unfold Qt.ownB
    rw [hend.1, hend.2, Array.length_toList]
    show (s.extract _ _).size ≤ _
    rw [ByteArray.size_extract]
    omega
  have h255 : (Utf8.decode s pos).2 = 1 → (pcF s pos).1 ≤ 255 := by
    intro hk
    rcases pc_cases s pos hp with ⟨_, e, _⟩ | ⟨r, k, e, e2, he⟩
    · have e1 := congrArg Prod.fst e
      rw [e1]
      exact byte_le _
    · have e1 : (pcF s pos).1 = (r : Int) := congrArg Prod.fst e
      rw [hk] at e2
      subst e2
      rw [e1]
      rcases he with he | he | he | he <;> omega
  exact prn_six' _ _ _ _ hw.1 hw.2.1 ho hr.1 hr.2 h255
theorem six_from (s : ByteArray) (f : Nat) : ∀ pos, pos ≤ s.size → (qS s (piecesFrom s f pos)).length ≤ 6 * (s.size - pos) := by
  induction f with
  | zero => intro pos h; rw [piecesFrom]; simp [Qt.qS]
  | succ f ih =>
    intro pos h
    by_cases hp : pos < s.size
    · have hw := width_le s pos hp
      have h1 := ih (pos + (Utf8.decode s pos).2) (by omega)
      have h2 := prn_six hp
      rw [Pc.piecesFrom, if_pos hp, Qt.qS, List.length_append]
      omega
    · rw [piecesFrom_end s _ pos hp]; simp [Qt.qS]
theorem quote_six (s : ByteArray) : (quoteL s).length ≤ 6 * s.size + 2 := by
  have := six_from s s.size 0 (by omega)
  unfold Qt.quoteL
  simp
  have e : pieces s = piecesFrom s s.size 0 := rfl
  rw [e]
  omega
theorem quote_two (s : ByteArray) : 2 ≤ (quoteL s).length := by unfold Qt.quoteL; simp

theorem bare_text (s : ByteArray) : ∀ (l : List P4), (bareG s l).2.2 = 0 → (bareG s l).1 = (s.extract 0 (bareG s l).2.1.toNat).data.toList := by
  intro l
  induction l with
  | nil =>
    intro _
    rw [Bw.bareG]
    show s.data.toList = (s.extract 0 ((s.size : Int)).toNat).data.toList
    rw [show ((s.size : Int)).toNat = s.size from rfl]
    rw [ByteArray.extract_zero_size]
  | cons x t ih =>
    intro h
    rw [Bw.bareG] at h ⊢
    split
    · rfl
    · rename_i hb
      rw [if_neg hb] at h
      split
      · rename_i h0
        rw [if_pos h0] at h
        exact ih h
      · rename_i h0
        rw [if_neg h0] at h
        exact absurd h h0

theorem bareOk_iff (s : ByteArray) : bareOk s = true ↔ s.size ≠ 0 ∧ s.get! 0 ≠ 35 ∧ (bareG s (pieces s)).2.2 = 0 ∧ (bareG s (pieces s)).2.1 = (s.size : Int) := by
  unfold Bw.bareOk
  by_cases h0 : s.size = 0
  · rw [if_pos h0]; simp [h0]
  rw [if_neg h0]
  by_cases h1 : s.get! 0 = 35
  · rw [if_pos h1]; simp [h1]
  rw [if_neg h1]
  simp [h0, h1]
theorem pieces_head {s : ByteArray} (h : 0 < s.size) : pieces s = pcF s 0 :: (pieces s).drop 1 := by
  have hk : 0 < (pieces s).length := Rn.pieces_pos (by omega)
  obtain ⟨_, hpc, _, _⟩ := Wd.bg_step (Wd.bg_zero s) hk
  have := List.drop_eq_getElem_cons hk
  rw [List.drop_zero, hpc] at this
  exact this
theorem tail_zero (s : ByteArray) : tailS s 0 = s := by unfold tailS; rw [ByteArray.extract_zero_size]

theorem words_of_bare {s : ByteArray} (h : bareOk s = true) (hs : ¬ 4096 < s.size) : wordsG s = ([(s, false, 0)], 0, 0) := by
  obtain ⟨h0, h35, he, hpl⟩ := (bareOk_iff s).1 h
  have hp : 0 < s.size := by omega
  have hh := pieces_head hp
  have hat := (Wd.pcF_end s 0).1
  have hbl : blB ((s.get! 0).toNat : Int) = false := by
    rw [Bool.eq_false_iff]
    intro e
    rw [hh, Bw.bareG, hat, if_pos (by exact e)] at hpl
    have : ((0 : Nat) : Int) = (s.size : Int) := hpl
    omega
  have h34 : s.get! 0 ≠ 34 := by
    intro e
    have ha := (Cb.ascii hp _ e (by decide)).2
    rw [hh, Bw.bareG, hat, if_neg (by rw [show ((0 : Nat) : Int).toNat = 0 from rfl, hbl]; simp), ha] at he
    rw [if_neg (by decide)] at he
    exact absurd he (by show ¬ (14 : Int) = 0; decide)
  have htx := bare_text s (pieces s) he
  rw [hpl, show ((s.size : Int)).toNat = s.size from rfl, ByteArray.extract_zero_size] at htx
  have hrd : rdF s 0 = (s.data.toList, (s.size : Int), 0) := by
    unfold rdF
    rw [if_neg h34, tail_zero]
    rw [← htx, ← hpl, ← he]
  have hrw : rwF s 0 = ((s, false, 0), s.size, 0) := by
    unfold rwF
    rw [hrd, if_neg (by simp), if_neg (fun h => h34 h.1)]
    simp [h34]
  unfold wordsG
  rw [if_neg hs, skp_stop (fun hh => by rw [hbl] at hh; exact absurd hh.2 (by simp))]
  rw [wrdG, if_pos ⟨hp, h35⟩, if_neg (by simp), hrw, if_neg (by simp), skp_stop (fun hh => Nat.lt_irrefl _ hh.1)]
  rw [wrdG, if_neg (fun hh => Nat.lt_irrefl _ hh.1)]
  rfl

theorem wrd_pre (s : ByteArray) (f : Nat) : ∀ q acc, (wrdG s f q acc).2.2 = 0 → acc <+: (wrdG s f q acc).1 := by
  induction f with
  | zero => intro q acc _; rw [wrdG]; exact List.prefix_refl _
  | succ f ih =>
    intro q acc h
    rw [wrdG] at h ⊢
    by_cases c1 : q < s.size ∧ s.get! q ≠ 35
    · rw [if_pos c1] at h ⊢
      by_cases c2 : acc.length = 64
      · rw [if_pos c2] at h; exact absurd h (by show ¬ (18 : Int) = 0; decide)
      rw [if_neg c2] at h ⊢
      by_cases c3 : (rwF s q).2.2 ≠ 0
      · rw [if_pos c3] at h; exact absurd h c3
      rw [if_neg c3] at h ⊢
      exact (List.prefix_append acc [(rwF s q).1]).trans (ih _ _ h)
    · rw [if_neg c1]; exact List.prefix_refl _
theorem wrd_zero (s : ByteArray) (f : Nat) : ∀ q acc, (wrdG s f q acc).2.2 = 0 → (wrdG s f q acc).2.1 = 0 := by
  induction f with
  | zero => intro q acc _; rw [wrdG]
  | succ f ih =>
    intro q acc h
    rw [wrdG] at h ⊢
    by_cases c1 : q < s.size ∧ s.get! q ≠ 35
    · rw [if_pos c1] at h ⊢
      by_cases c2 : acc.length = 64
      · rw [if_pos c2] at h; exact absurd h (by show ¬ (18 : Int) = 0; decide)
      rw [if_neg c2] at h ⊢
      by_cases c3 : (rwF s q).2.2 ≠ 0
      · rw [if_pos c3] at h; exact absurd h c3
      rw [if_neg c3] at h ⊢
      exact ih _ _ h
    · rw [if_neg c1]
theorem words_zero {s : ByteArray} {l : List W3} {p : Int} (h : wordsG s = (l, p, 0)) : p = 0 := by
  unfold wordsG at h
  by_cases hs : 4096 < s.size
  · rw [if_pos hs] at h; simp at h
  rw [if_neg hs] at h
  have := wrd_zero s 65 (skp s 0) [] (by rw [h])
  rw [h] at this
  exact this
theorem bare_of_words {s : ByteArray} {x : W3} {p : Int} (h : wordsG s = ([x], p, 0)) (hq : x.2.1 = false) (hx : x.1 = s) : bareOk s = true := by
  unfold wordsG at h
  by_cases hs : 4096 < s.size
  · rw [if_pos hs] at h; simp at h
  rw [if_neg hs, wrdG] at h
  by_cases c1 : skp s 0 < s.size ∧ s.get! (skp s 0) ≠ 35
  · rw [if_pos c1, if_neg (by simp)] at h
    by_cases c3 : (rwF s (skp s 0)).2.2 ≠ 0
    · rw [if_pos c3] at h; simp at h
    rw [if_neg c3] at h
    have hpre := wrd_pre s 64 (skp s (rwF s (skp s 0)).2.1) ([] ++ [(rwF s (skp s 0)).1]) (by rw [h])
    rw [h] at hpre
    have hy : (rwF s (skp s 0)).1 = x := by
      have := List.prefix_cons_iff.1 hpre
      rcases this with e | ⟨t, e, _⟩
      · simp at e
      · simp at e; exact e.1
    clear hpre h
    generalize hq0 : skp s 0 = q0 at *
    unfold rwF at hy c3
    by_cases c4 : (rdF s q0).2.2 ≠ 0
    · rw [if_pos c4] at c3; exact absurd c4 c3
    rw [if_neg c4] at hy c3
    by_cases c5 : s.get! q0 = 34 ∧ q0 + (rdF s q0).2.1.toNat < s.size ∧ blB ((s.get! (q0 + (rdF s q0).2.1.toNat)).toNat : Int) = false
    · rw [if_pos c5] at c3; exact absurd (by show (11 : Int) ≠ 0; decide) c3
    rw [if_neg c5] at hy
    subst hy
    have h34 : s.get! q0 ≠ 34 := by simpa using hq
    have hrd : rdF s q0 = bareG (tailS s q0) (pieces (tailS s q0)) := by unfold rdF; rw [if_neg h34]
    have he0 : (rdF s q0).2.2 = 0 := by simpa using c4
    have hpl := rd_place s q0
    have hX : (⟨(rdF s q0).1.toArray⟩ : ByteArray) = s := hx
    have hlen : (rdF s q0).1.length = s.size := by
      have := congrArg ByteArray.size hX
      rw [← this]
      show _ = (rdF s q0).1.toArray.size
      simp
    rw [hrd] at he0 hpl hlen
    have htx := bare_text _ _ he0
    rw [htx, Array.length_toList] at hlen
    have hlen' : ((tailS s q0).extract 0 (bareG (tailS s q0) (pieces (tailS s q0))).2.1.toNat).size = s.size := hlen
    rw [ByteArray.size_extract, tail_size] at hlen'
    have h00 : q0 = 0 := by omega
    subst h00
    rw [tail_zero] at he0 hpl hlen'
    exact (bareOk_iff s).2 ⟨by omega, c1.2, he0, by omega⟩
  · rw [if_neg c1] at h; simp at h

theorem join_one (s : ByteArray) : joinG [(s, false, 0)] = if bareOk s = true then (if 4096 < s.size then ([], 4096, 10) else (s.data.toList, 0, 0)) else ([], 0, 14) := by
  cases hb : bareOk s
  · rw [if_neg (by simp)]
    exact joinG_bad (l := [(s, false, 0)]) (k := 0) (by simp) (by simp) (fun j hj h => by omega) (by simp [Jn.badW, hb])
  · rw [if_pos rfl]
    have hl : lineA true [(s, false, 0)] = s.data.toList := by simp [Jn.lineA, Jn.wordL]
    have hz : s.data.toList.length = s.size := by rw [Array.length_toList]; rfl
    rw [joinG_good (l := [(s, false, 0)]) (by simp) (fun j hj => by
      have hj' : j = 0 := by simp at hj; exact hj
      subst hj'
      simp [Jn.badW, hb]), hl, hz]
theorem get_bare : bareOk ⟨#[103, 101, 116]⟩ = true := by decide +kernel
theorem join_two (s : ByteArray) : joinG [(⟨#[103, 101, 116]⟩, false, 0), (s, true, 0)] = if 4096 < 4 + (quoteL s).length then ([], 4096, 10) else ([103, 101, 116, 32] ++ quoteL s, 0, 0) := by
  have hl : lineA true [(⟨#[103, 101, 116]⟩, false, 0), (s, true, 0)] = [103, 101, 116, 32] ++ quoteL s := by simp [Jn.lineA, Jn.wordL]
  rw [joinG_good (l := [(⟨#[103, 101, 116]⟩, false, 0), (s, true, 0)]) (by simp) (fun j hj => by
    have hj' : j = 0 ∨ j = 1 := by simp at hj; omega
    rcases hj' with rfl | rfl
    · simp [Jn.badW, get_bare]
    · simp [Jn.badW]), hl]
  have hz : ([103, 101, 116, 32] ++ quoteL s : List UInt8).length = 4 + (quoteL s).length := by simp; omega
  rw [hz]
end Go.Proofs.YtckjededijgjgaaDoor.Wo
