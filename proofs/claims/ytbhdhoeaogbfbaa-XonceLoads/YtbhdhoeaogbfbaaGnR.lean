import Derived.Test.YtbhdhoeaogbfbaaGnP
import Derived.Test.YtbhdhoeaogbfbaaEnJ
namespace Go.Proofs.Ytbhdhoeaogbfbaa.Xo
open Go.RowKit
set_option linter.unusedVariables false
theorem blk_ne {w : World} {b c : Nat} {ty ty' : TypeId} {x y : Array Value} (h : w.heap[b]? = some (.cells x ty (0, 0))) (h' : w.heap[c]? = some (.cells y ty' (0, 0))) (ht : ty ≠ ty') : c ≠ b := by
  rintro rfl
  rw [h] at h'
  simp only [Option.some.injEq, Obj.cells.injEq] at h'
  exact ht h'.2.1
/-- a list in a box has grown by a payload -/
theorem bpush {w W3 : World} {B b o : Nat} {c : Array Value} {v : Value} {k : Nat} {xs : List Value} (hr : w.heap[b]? = some (.cells c 66 (0, 0))) (hc : c[o]? = some v) (own : w.ownsRow B 45 1 v k xs) (hB : B ≤ w.heap.size) (hk : k ≤ 140737488351232 / 24) (k3 : Kp Nu w W3) {d : Value} (hd : ∃ ad n cap, d = .slice ad n cap) :
    ∃ v' w4, (∃ ad n cap, v' = .slice ad n cap) ∧ (Builtin.append_ #[41, 41] 41 #[v, .slice (some ⟨W3.heap.size, 0, none⟩) 1 1]).run Try.prog (W3.alloc (.cells #[d] 45)) = .ok v' w4 ∧ w4.cell? ⟨b, o, none⟩ = some v ∧ w4.frozen? ⟨b, o, none⟩ = false ∧
      Hid ((w4.setCell ⟨b, o, none⟩ v').heap[b]? = some (.cells (c.setIfInBounds o v') 66 (0, 0)) ∧ (w4.setCell ⟨b, o, none⟩ v').ownsRow B 45 1 v' (k + 1) (xs ++ [d]) ∧ Kp (fun i => i = b ∨ some i = v.ownBlock) w (w4.setCell ⟨b, o, none⟩ v') ∧ ∀ (i : Nat) (cur : Array Value), W3.heap[i]? = some (.cells cur 5 (0, 0)) → (w4.setCell ⟨b, o, none⟩ v').heap[i]? = W3.heap[i]?) := by
  obtain ⟨i0, hi, hz0, hz1, hz2⟩ := info_parts info45
  obtain ⟨ad, n, cap, hdd⟩ := hd
  have ka : Kp Nu w (W3.alloc (.cells #[d] 45)) := k3.andAlloc _
  have hra := (ka.block _ (blk_lt hr) (fun h => h)).trans hr
  have owna : (W3.alloc (.cells #[d] 45)).ownsRow B 45 1 v k xs := own_keep own (fun g hg => ka.block g (own_lt own hg) (fun h => h))
  obtain ⟨v', w4, h1, h2, h3, _, h5⟩ := run_append_own_at (P := Try.prog) (W3.alloc (.cells #[d] 45)) B 41 41 45 i0 _ 1 24 Try.underlying41 hi hz0 hz1 hz2 rfl (by decide) v k xs owna ⟨W3.heap.size, 0, none⟩ 1 1 [d] rfl (by
    intro j x hj
    rw [Addr.add_lit, Nat.zero_add]
    exact cellAt (heap_alloc_new W3 _) j (by simpa using hj)) (by
    intro x hx
    simp at hx
    rw [hx, hdd]; rfl) (by unfold maxLen; omega) (by omega) (by have := ka.size; omega)
  have kg := Kp.of_grown h3
  have hb4 : w4.heap[b]? = some (.cells c 66 (0, 0)) := (kg.block b (blk_lt hra) (fun e => by
    obtain ⟨cur, hc'⟩ := own_obj owna e.symm
    exact blk_ne hra hc' (by decide) rfl)).trans hra
  have ks : Kp (fun i => i = b) w4 (w4.setCell ⟨b, o, none⟩ v') := (Kp.refl _ _).put
  refine ⟨v', w4, (by obtain ⟨a1, c1, e1⟩ := own_slice h2; exact ⟨_, _, _, e1⟩), h1, cellAt hb4 o hc, free3 hb4 o, set3 hb4 o v', ?_, ?_, ?_⟩
  · exact own_keep (by simpa using h2) (fun g hg => ks.block g (own_lt h2 hg) (fun e => by
      obtain ⟨cur, hc'⟩ := own_obj h2 hg
      exact blk_ne hb4 hc' (by decide) e))
  · exact ((ka.mono (T := fun i => i = b ∨ some i = v.ownBlock) (fun _ _ e => e.elim)).trans kg (fun _ _ e => .inr e)).trans ks (fun _ _ e => .inl e)
  · intro i cur hc'
    have hca : (W3.alloc (.cells #[d] 45)).heap[i]? = W3.heap[i]? := Below.heap_alloc _ _ _ (blk_lt hc')
    have h4 : w4.heap[i]? = W3.heap[i]? := (kg.block i (by have := blk_lt hc'; simp; omega) (fun e => by
      obtain ⟨cur', hc2⟩ := own_obj owna e.symm
      rw [hca, hc'] at hc2
      cases hc2)).trans hca
    exact (ks.block i (blk_lt (h4.trans hc')) (fun e => blk_ne hb4 (h4.trans hc') (by decide) e)).trans h4
end Go.Proofs.Ytbhdhoeaogbfbaa.Xo
namespace Go.Proofs.Ytbhdhoeaogbfbaa.Xo
open Go.RowKit
set_option linter.unusedVariables false
/-- the document's Twin behind some rounds of its first loop -/
structure T1 (w wr : World) (P : Array Value) (s a m d : Int) (v : Value) (qs xs : List (Value × List Int)) (k : Nat) : Prop where
  kp : Kp Nu w wr
  p0 : wr.heap[w.heap.size]? = some (.cells P 66 (0, 0))
  r1 : wr.heap[w.heap.size + 1]? = some (.cells #[.int .u64 0, .int .u64 0, .slice none 0 0, .int .u64 0, .int .u64 0, .slice none 0 0] 66 (0, 0))
  q2 : wr.heap[w.heap.size + 1 + 1]? = some (.cells #[.int .u64 s, .int .u64 a, v, .int .u64 m, .int .u64 d, .slice none 0 0] 66 (0, 0))
  own : wr.ownsRow w.heap.size 45 1 v k (xs.map Prod.fst)
  len : xs.length = k
  pay : ∀ (i : Nat) (x y : Value × List Int), xs[i]? = some x → qs[i]? = some y → x.2 = y.2 ∧ wr.ownsRow w.heap.size 5 1 x.1 x.2.length (cs x.2)
theorem T1.step {w wr w3 w5 : World} {P : Array Value} {s a m d : Int} {v v' dv : Value} {qs xs : List (Value × List Int)} {k : Nat} (h : T1 w wr P s a m d v qs xs k) {y : Value × List Int} (hy : qs[k]? = some y) (k3 : Kp Nu wr w3) (ho : w3.ownsRow wr.heap.size 5 1 dv y.2.length (cs y.2))
    (h1 : w5.heap[w.heap.size + 1 + 1]? = some (.cells ((#[.int .u64 s, .int .u64 a, v, .int .u64 m, .int .u64 d, .slice none 0 0] : Array Value).setIfInBounds 2 v') 66 (0, 0))) (h2 : w5.ownsRow w.heap.size 45 1 v' (k + 1) (xs.map Prod.fst ++ [dv])) (h3 : Kp (fun i => i = w.heap.size + 1 + 1 ∨ some i = v.ownBlock) wr w5) (h4 : ∀ (i : Nat) (cur : Array Value), w3.heap[i]? = some (.cells cur 5 (0, 0)) → w5.heap[i]? = w3.heap[i]?) :
    T1 w w5 P s a m d v' qs (xs ++ [(dv, y.2)]) (k + 1) := by
  have hb : ∀ (i : Nat) (c : Array Value), wr.heap[i]? = some (.cells c 66 (0, 0)) → i ≠ w.heap.size + 1 + 1 → w5.heap[i]? = wr.heap[i]? := fun i c hc hi => h3.block i (blk_lt hc) (by
    rintro (e | e)
    · exact hi e
    · obtain ⟨cur, hc'⟩ := own_obj h.own e.symm
      exact blk_ne hc hc' (by decide) rfl)
  have hl := h.len
  refine ⟨h.kp.trans h3 (fun i hi e => ?_), (hb _ _ h.p0 (by omega)).trans h.p0, (hb _ _ h.r1 (by omega)).trans h.r1, h1, ?_, by simp [hl], fun i x z hx hz => ?_⟩
  · rcases e with e | e
    · omega
    · have := own_ge' h.own e.symm
      omega
  · simpa using h2
  · rcases Nat.lt_or_ge i xs.length with hl' | hl'
    · rw [List.getElem?_append_left hl'] at hx
      obtain ⟨o1, o2⟩ := h.pay i x z hx hz
      refine ⟨o1, own_keep o2 (fun g hg => ?_)⟩
      obtain ⟨cur, hc⟩ := own_obj o2 hg
      have e3 := k3.block g (blk_lt hc) (fun h => h)
      exact (h4 g cur (e3.trans hc)).trans e3
    · have hi2 : i = xs.length := by
        have := (List.getElem?_eq_some_iff.1 hx).1
        simp at this; omega
      subst hi2
      rw [List.getElem?_append_right (Nat.le_refl _)] at hx
      simp at hx
      subst hx
      rw [hl, hy] at hz
      cases hz
      exact ⟨rfl, own_base (own_keep ho (fun g hg => by obtain ⟨cur, hc⟩ := own_obj ho hg; exact h4 g cur hc)) h.kp.size⟩
end Go.Proofs.Ytbhdhoeaogbfbaa.Xo
