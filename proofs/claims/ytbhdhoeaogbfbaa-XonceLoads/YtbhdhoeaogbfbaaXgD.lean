import Derived.Test.YtbhdhoeaogbfbaaXgC
namespace Go.Proofs.Ytbhdhoeaogbfbaa.Xo
open Go.RowKit
set_option linter.unusedVariables false
set_option linter.unusedSimpArgs false
theorem info24s : (Try.prog.info? 24).map (·.size) = some 1 := by kernel_rfl
theorem Pm.off {w w' : World} {G S : Nat → Prop} {x : Px} (h : Pm w G x) (k : Kp S w w') (hS : ∀ i c t, S i → w.heap[i]? = some (.cells c t (0, 0)) → t ≠ 45 ∧ t ≠ 133 ∧ t ≠ 5) : Pm w' G x := by
  have key : ∀ {B e sz n : Nat} {v : Value} {l : List Value}, w.ownsRow B e sz v n l → (e = 45 ∨ e = 133 ∨ e = 5) → w'.ownsRow B e sz v n l := fun h he => own_keep h (fun g hg => k.block g (own_lt h hg) (fun hs => by
    obtain ⟨cur, hc⟩ := own_obj h hg
    obtain ⟨h1, h2, h3⟩ := hS g cur _ hs hc
    rcases he with e | e | e
    · exact h1 e
    · exact h2 e
    · exact h3 e))
  exact ⟨key h.own (.inl rfl), fun y hy => ⟨key (h.pay y hy).1 (.inr (.inr rfl)), (h.pay y hy).2⟩, key h.eown (.inr (.inl rfl)), fun f hf => ⟨key (h.epay f hf).1 (.inr (.inr rfl)), (h.epay f hf).2⟩, h.gq, h.ge⟩
/-- a list of copied states that grows in a box -/
structure Ts (w V wr : World) (bx : Nat) (z : Value) (xs I : List Px) (k : Nat) : Prop where
  kp : Kp Nu w wr
  hb : w.heap.size ≤ bx
  hV : Kp Nu w V
  bxh : wr.heap[bx]? = some (.cells #[z] 24 (0, 0))
  own : wr.ownsRow w.heap.size 66 6 z xs.length (flat (xs.map Px.p))
  pm : ∀ x ∈ xs, Pm wr (fun i => w.heap.size ≤ i) x
  ab : xs.map Px.ab = (I.take k).map Px.ab
  k24 : ∀ i c, i ≠ bx → V.heap[i]? = some (.cells c 24 (0, 0)) → wr.heap[i]? = some (.cells c 24 (0, 0))
theorem Ts.step {w V wr w3 w6 : World} {bx : Nat} {z z' : Value} {xs I : List Px} {k : Nat} {x t : Px} {o : Obj} (h : Ts w V wr bx z xs I k) (hx : I[k]? = some x) (k3 : Kp Nu wr w3) (ht : Pm w3 (fun i => wr.heap.size ≤ i) t) (hab : t.ab = x.ab)
    (hown : w6.ownsRow w.heap.size 66 6 z' (xs.length + 1) (flat (xs.map Px.p) ++ t.p.cells)) (hg : Kp (fun i => some i = z.ownBlock) (w3.alloc o) w6) : Ts w V (w6.setCell ⟨bx, 0, none⟩ z') bx z' (xs ++ [t]) I (k + 1) := by
  have ka : Kp Nu wr (w3.alloc o) := k3.andAlloc o
  have owna : (w3.alloc o).ownsRow w.heap.size 66 6 z xs.length (flat (xs.map Px.p)) := own_keep h.own (fun g hg => ka.block g (own_lt h.own hg) (fun e => e))
  have hba : (w3.alloc o).heap[bx]? = some (.cells #[z] 24 (0, 0)) := (ka.block bx (blk_lt h.bxh) (fun e => e)).trans h.bxh
  have hz66 : ∀ i c t, some i = z.ownBlock → (w3.alloc o).heap[i]? = some (.cells c t (0, 0)) → t = 66 := fun i c t e hc => by
    obtain ⟨cur, h2⟩ := own_obj owna e.symm
    rw [h2] at hc
    injection hc with hc
    injection hc with _ e2 _
    exact e2.symm
  have hb6 : w6.heap[bx]? = some (.cells #[z] 24 (0, 0)) := (hg.block bx (blk_lt hba) (fun e => by have := hz66 bx _ _ e hba; cases this)).trans hba
  have ks : Kp (fun i => i = bx) w6 (w6.setCell ⟨bx, 0, none⟩ z') := (Kp.refl _ _).put
  have kS : Kp (fun i => some i = z.ownBlock ∨ i = bx) (w3.alloc o) (w6.setCell ⟨bx, 0, none⟩ z') := (hg.mono (fun _ _ e => .inl e)).trans ks (fun _ _ e => .inr e)
  have hoff : ∀ i c t, (some i = z.ownBlock ∨ i = bx) → (w3.alloc o).heap[i]? = some (.cells c t (0, 0)) → t ≠ 45 ∧ t ≠ 133 ∧ t ≠ 5 := fun i c t e hc => by
    rcases e with e | e
    · have := hz66 i c t e hc; subst this; decide
    · rw [e, hba] at hc
      injection hc with hc
      injection hc with _ e2 _
      subst e2; decide
  have kw : Kp Nu w (w6.setCell ⟨bx, 0, none⟩ z') := (h.kp.andNu ka).trans kS (fun i hi e => by
    rcases e with e | e
    · have := own_ge' owna e.symm; omega
    · have := h.hb; omega)
  refine ⟨kw, h.hb, h.hV, by have := set3 hb6 0 z'; exact this, ?_, fun y hy => ?_, ?_, fun i c hi hc => ?_⟩
  · rw [List.length_append, List.map_append, flat_append]
    have : flat ([t].map Px.p) = t.p.cells := by simp [flat]
    rw [this]
    exact own_keep hown (fun g hg2 => ks.block g (own_lt hown hg2) (fun e => by
      obtain ⟨cur, hc⟩ := own_obj hown hg2
      rw [e, hb6] at hc; cases hc))
  · rcases List.mem_append.1 hy with hy | hy
    · exact ((h.pm y hy).nu ka).off kS hoff
    · rw [List.mem_singleton.1 hy]
      exact ((ht.nu (Kp.alloc w3 o Nu)).off kS hoff).mono (fun i hi hG => Nat.le_trans h.kp.size hG)
  · rw [List.map_append, h.ab, List.take_add_one, hx, List.map_append]
    show _ ++ [t.ab] = _ ++ [x.ab]
    rw [hab]
  · have hr := h.k24 i c hi hc
    have ha := (ka.block i (blk_lt hr) (fun e => e)).trans hr
    exact (kS.block i (blk_lt ha) (fun e => by
      rcases e with e | e
      · have := hz66 i _ _ e ha; cases this
      · exact hi e)).trans ha
theorem cells_six_new (w : World) (a b c d e f : Value) (t : TypeId) : ∀ j u, [a, b, c, d, e, f][j]? = some u → (w.alloc (.cells #[a, b, c, d, e, f] t)).cell? ((⟨w.heap.size, 0, none⟩ : Addr).add j) = some u := fun j u hj => by
  rw [Addr.add_lit, Nat.zero_add]
  exact cellAt (heap_alloc_new w _) j (by simpa using hj)
end Go.Proofs.Ytbhdhoeaogbfbaa.Xo
