import Derived.Test.YtchealdgncgjoaaFiA
import Derived.Test.YtchealdgncgjoaaSgA
import Derived.Test.YtchealdgncgjoaaNwB
namespace Go.Proofs.Ytchealdgncgjoaa.StI
open Go.RowKit Go.Proofs.Ytchealdgncgjoaa.St Go.Shelf Go.Sort Go.Proofs.Ytchealdgncgjoaa.It
set_option linter.unusedVariables false
theorem Wi.nu {w w' : World} {v : Value} {S : List Int} (h : Wi w v S) (k : Kp Nu w w') : Wi w' v S := by
  obtain ⟨ad, cap, e, hc⟩ := h
  exact ⟨ad, cap, e, fun i s hi => by obtain ⟨b, off, e2, c⟩ := hc i s hi; exact ⟨b, off, e2, cell_nuI c k⟩⟩
theorem Cc.nu {X Z : World} (k : Kp Nu X Z) : Cc X Z := fun b c t m e => (k.block b (blk_lt e) (fun h => h)).trans e
theorem Cc.trans {X Y Z : World} (h : Cc X Y) (k : Cc Y Z) : Cc X Z := fun b c t m e => k b c t m (h b c t m e)
theorem Cc.own {X Z : World} (h : Cc X Z) {B n : Nat} {v : Value} {l : List Value} (ho : X.ownsRow B 3 1 v n l) : Z.ownsRow B 3 1 v n l :=
  own_keep ho (fun g hg => by obtain ⟨cur, hc⟩ := own_obj ho hg; rw [hc]; exact h _ _ _ _ hc)
theorem Cc.rm {X Z : World} (h : Cc X Z) {B rb : Nat} {wh : Int} {vk vv : Value} {xs : List (Int × Int)} (r : Rm B X rb wh vk vv xs) : Rm B Z rb wh vk vv xs :=
  ⟨h _ _ _ _ r.blk, h.own r.ok, h.own r.ov, r.apart⟩
theorem Cc.set {X V : World} (h : Cc X V) {b : Nat} (hb : X.heap.size ≤ b) (u : Value) : Cc X (V.setCell ⟨b, 0, none⟩ u) := fun k c t m e =>
  (Below.heap_setCell V ⟨b, 0, none⟩ u k (fun e2 => by have e2 : k = b := e2; have := blk_lt e; omega)).trans (h k c t m e)
theorem own_lower {w : World} {B B' n : Nat} (hB : B ≤ B') {v : Value} {l : List Value} (h : w.ownsRow B' 3 1 v n l) : w.ownsRow B 3 1 v n l := by
  refine ⟨h.1, ?_⟩
  rcases h.2 with ⟨rfl, h0⟩ | ⟨g, cap, cur, rfl, hb', hg, h1, h2, h3, h4⟩
  · exact .inl ⟨rfl, h0⟩
  · exact .inr ⟨g, cap, cur, rfl, Nat.le_trans hB hb', hg, h1, h2, h3, h4⟩
/-- what stands while StoreBetween goes through the range -/
structure Bw (X : World) (bs br bk bv mb rb B : Nat) (stop : Int) (t : T (Int × Int)) (vk vv vk0 vv0 : Value) (L : List (Int × Int)) : Prop where
  s : X.heap[bs]? = some (.cells #[.int .i64 stop] 3 (0, 0))
  r : X.heap[br]? = some (.cells #[.bool false] 4 (0, 0))
  k : X.heap[bk]? = some (.cells #[vk] 47 (0, 0))
  v : X.heap[bv]? = some (.cells #[vv] 47 (0, 0))
  m : Mp X mb t
  d : Rm B X rb 0 vk0 vv0 t.xs
  ok : X.ownsRow B 3 1 vk L.length (kv L)
  ov : X.ownsRow B 3 1 vv L.length (vvs L)
theorem Bw.cc {X Z : World} {bs br bk bv mb rb B : Nat} {stop : Int} {t : T (Int × Int)} {vk vv vk0 vv0 : Value} {L : List (Int × Int)} (h : Bw X bs br bk bv mb rb B stop t vk vv vk0 vv0 L) (c : Cc X Z) : Bw Z bs br bk bv mb rb B stop t vk vv vk0 vv0 L :=
  ⟨c _ _ _ _ h.s, c _ _ _ _ h.r, c _ _ _ _ h.k, c _ _ _ _ h.v, c.mp h.m, c.rm h.d, c.own h.ok, c.own h.ov⟩
theorem pre_at {pre L : List (Int × Int)} {x : Int × Int} (h : pre ++ [x] <+: L) : L[pre.length]? = some x ∧ pre.length < L.length := by
  obtain ⟨s, rfl⟩ := h
  simp
end Go.Proofs.Ytchealdgncgjoaa.StI
