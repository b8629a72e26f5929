import Derived.Test.YtmlnglillgplfaaGreatCtF
namespace Go.Proofs.YtmlnglillgplfaaGreat.Cl
open Go.RowKit Go.Maps
set_option linter.unusedVariables false
theorem kpR {w w' : World} (h : Rg.Kp Rg.Nu w w') : Kp Nu w w' := ⟨h.os, h.tape, h.output, h.size, fun k hk hn => h.block k hk (fun h => h)⟩
theorem kpR' {w w' : World} (h : Kp Nu w w') : Rg.Kp Rg.Nu w w' := ⟨h.os, h.tape, h.output, h.size, fun k hk hn => h.block k hk (fun h => h)⟩
/-- a new client -/
def Cs.new (hosts pat tries : Int) (hb mb : Nat) : Cs := ⟨hosts, pat, tries, hb, 0, 0, 0, Sl.nil, Sl.nil, false, 0, 0, 0, 0, Sl.nil, Sl.nil, 0, 0, 0, 0, mb, 0, 0⟩
theorem info122 : (Tryz.prog.info? 122).map (·.size) = some 23 := by kernel_rfl
theorem role_client (w : World) (a : Int) (h0 : 16 ≤ a) (h1 : a ≤ 31) : Calls Tryz.prog 67 #[.int .u8 a] w fun e w' => e = .returned (.int .u8 2) ∧ w' = w := by
  have g0 : ¬ a < 16 := by omega
  have g1 : a < 32 := by omega
  clear h0 h1
  go_enter Tryz.func67, Tryz.ntmps67
  go_wp2
  go_ret
  exact ⟨rfl, rfl⟩
theorem own_keepR {w w' : World} {B e size n : Nat} {v : Value} {xs : List Value} (h : w.ownsRow B e size v n xs) (hk : ∀ g, v.ownBlock = some g → w'.heap[g]? = w.heap[g]?) : w'.ownsRow B e size v n xs := own_keep h hk
/-- a table stands where none of its blocks has turned -/
theorem tb_kp {B b : Nat} {w w' : World} {lim : Int} {v : Value} {L : List Rg.Sg} {S : Nat → Prop} (h : Rg.Tb B w b lim v L) (k : Kp S w w') (hb : ¬ S b) (hS : ∀ i, S i → ∀ c, w.heap[i]? ≠ some (.cells c 76 (0, 0))) : Rg.Tb B w' b lim v L :=
  ⟨(k.block b (blk_lt h.blk) hb).trans h.blk, h.low, own_keep h.own (fun g hg => k.block g (own_lt h.own hg) (fun hs => by
    obtain ⟨c, hc⟩ := own_obj h.own hg
    exact hS g hs c hc)), h.tab, h.len, h.lim1⟩
set_option maxHeartbeats 1000000 in
theorem believe_raw {w : World} {b : Nat} {c : Array Value} (h : w.heap[b]? = some (.cells c 122 (0, 0))) (hc : c.size = 23) :
    Calls Tryz.prog 59 #[.pointer (some ⟨b, 0, none⟩), .int .u8 0] w fun e w' => ∃ hb tv, e = .returned (.tuple #[]) ∧ w'.heap[b]? = some (.cells (c.setIfInBounds 3 (.pointer (some ⟨hb, 0, none⟩))) 122 (0, 0)) ∧ Rg.Tb w.heap.size w' hb 64 tv [⟨0, 18446744073709551615, 0⟩] ∧ Kp (fun i => i = b) w w' := by
  have NW := Rg.new_ok w 0 (by omega) (by omega) 64 (by omega) (by omega)
  have hbl : b < w.heap.size := blk_lt h
  have HH := hide h
  clear h
  go_enter Tryz.func59, Tryz.ntmps59
  go_wp2_with fail
  refine NW.mono ?_; rintro e w1 ⟨hb, tv, rfl, hT, hk⟩
  have hb1 := ((kpR hk).block b hbl (fun h => h)).trans HH.out
  obtain ⟨x, hx⟩ : ∃ x, c[3]? = some x := ⟨_, Array.getElem?_eq_getElem (by omega)⟩
  have x3 := cellAt hb1 3 hx
  have f3 := free3 hb1 3
  have HB := hide hb1
  have HT := hide hT
  have HK := hide (kpR hk)
  clear NW hb1 hT hk hx
  go_wp2
  go_end0
  have hlow := HT.out.low
  refine ⟨hb, tv, rfl, set3 HB.out 3 _, ?_, (HK.out.mono (T := fun i => i = b) (fun _ _ h => h.elim)).andSet ⟨b, 3, none⟩ _ (.inr rfl)⟩
  exact tb_kp HT.out (Kp.setCell w1 ⟨b, 3, none⟩ (.pointer (some ⟨hb, 0, none⟩))) (fun e => by have e : hb = b := e; omega) (fun i hi c' hc' => by have hi : i = b := hi; rw [hi, HB.out] at hc'; cases hc')
set_option maxRecDepth 100000 in
set_option maxHeartbeats 2000000 in
theorem new_client (w : World) (a hosts pat tries : Int) (a0 : 16 ≤ a) (a1 : a ≤ 31) (h0 : 1 ≤ hosts) (h1 : hosts ≤ 16) (p0 : 1 ≤ pat) (p1 : pat ≤ 64) (t0 : 1 ≤ tries) (t1 : tries ≤ 64) :
    Calls Tryz.prog 32 #[.int .u8 a, .int .i64 hosts, .int .i64 pat, .int .i64 tries] w fun e w' => ∃ b hb mb tv, e = .returned (.tuple #[.pointer (some ⟨b, 0, none⟩), .int .i64 0]) ∧ CB w' b (Cs.new hosts pat tries hb mb) ∧ Am w' mb 0 (.map []) ∧ Rg.Tb w.heap.size w' hb 64 tv [⟨0, 18446744073709551615, 0⟩] ∧ w.heap.size ≤ b ∧ w.heap.size ≤ mb ∧ Kp Nu w w' := by
  have RO := fun W => role_client W a a0 a1
  have BL := fun W b c h1 h2 => believe_raw (w := W) (b := b) (c := c) h1 h2
  have hmm := @run_makeMap Tryz.prog
  have g0 : hosts ≥ 1 := h0
  have g1 : pat ≥ 1 := p0
  have g2 : tries ≥ 1 := t0
  clear a0 a1 h0 p0 t0
  go_enter Tryz.func32, Tryz.ntmps32
  go_wp2_with fail
  refine (RO _).mono ?_; rintro e w' ⟨rfl, hw⟩
  obtain rfl := hw.symm
  clear RO hw
  go_wp2_with fail
  refine (BL _ _ _ (new2 w _ _) rfl).mono ?_; rintro e w2 ⟨hb, tv, rfl, hc2, hT, hk2⟩
  have HF := hide (And.intro hc2 (And.intro hT hk2))
  clear BL hc2 hT hk2
  go_wp2
  go_ret2
  obtain ⟨hc2, hT, hk2⟩ := HF.out
  have KA : Kp Nu w w2 := ((Kp.alloc w (.map #[] 0) Nu).andAlloc _).trans hk2 (fun i hi e => by have e : i = w.heap.size + 1 := e; omega)
  refine ⟨w.heap.size + 1, hb, w.heap.size, tv, rfl, hc2, ?_, ?_, by omega, by omega, KA⟩
  · refine Am.keep (World.ownsMap_made w Tryz.prog 30 unitElem) ((hk2.block _ (by simp; omega) (fun e => by have e : w.heap.size = w.heap.size + 1 := e; omega)).trans ?_)
    exact (Below.heap_alloc _ _ _ (by simp))
  · exact ⟨hT.blk, by have := hT.low; simp at this; omega, own_base hT.own (by simp; omega), hT.tab, hT.len, hT.lim1⟩
end Go.Proofs.YtmlnglillgplfaaGreat.Cl
