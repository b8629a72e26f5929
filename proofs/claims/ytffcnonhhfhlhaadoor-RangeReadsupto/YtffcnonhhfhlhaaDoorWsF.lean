import Derived.Test.YtffcnonhhfhlhaaDoorWsE
import Derived.Test.YtffcnonhhfhlhaaDoorLdD
import Derived.Test.YtffcnonhhfhlhaaDoorRgM
import Derived.Maps.AppendAt
namespace Go.Proofs.YtffcnonhhfhlhaaDoor.Ws
open Go.RowKit Go.Shelf Go.Sort
open Go.Proofs.YtffcnonhhfhlhaaDoor.It
open Go.Proofs.YtffcnonhhfhlhaaDoor.Rg (Kp Nu Sg cells)
set_option linter.unusedVariables false
/-- where the next word begins -/
def off : List (List UInt8) → Nat
  | [] => 0
  | x :: r => x.length + 1 + off r
theorem off_app : ∀ (a b : List (List UInt8)), off (a ++ b) = off a + off b
  | [], b => by simp [off]
  | x :: a, b => by simp only [List.cons_append, off, off_app a b]; omega
theorem off_spl (c : UInt8) : ∀ l, off (spl c l) = l.length + 1
  | [] => rfl
  | x :: r => by
    have ih := off_spl c r
    by_cases h : x = c
    · have e1 : spl c (x :: r) = [] :: spl c r := by simp only [spl, h, if_true]
      rw [e1]
      simp only [off, ih, List.length_nil, List.length_cons]
      omega
    · have e1 : spl c (x :: r) = (x :: ((spl c r).head?.getD [])) :: (spl c r).tail := by simp only [spl, h, if_false]
      rw [e1]
      cases hs : spl c r with
      | nil => exact absurd hs (spl_ne c r)
      | cons y t =>
        rw [hs] at ih
        simp only [off, List.length_cons] at ih ⊢
        simp only [List.head?_cons, Option.getD_some, List.tail_cons]
        omega
theorem off_le {c : UInt8} {l : List UInt8} {pre : List (List UInt8)} (h : pre <+: spl c l) : off pre ≤ l.length + 1 := by
  obtain ⟨t, e⟩ := h
  have := off_spl c l
  rw [← e, off_app] at this
  omega
theorem len_le_off : ∀ a : List (List UInt8), a.length ≤ off a
  | [] => Nat.le_refl _
  | x :: r => by simp only [List.length_cons, off]; have := len_le_off r; omega
/-- where each word begins -/
def begs (pre : List (List UInt8)) : List Value := (List.range pre.length).map (fun i => .int .i64 (off (pre.take i) : Int))
theorem begs_len (pre : List (List UInt8)) : (begs pre).length = pre.length := by simp [begs]
theorem begs_snoc (pre : List (List UInt8)) (x : List UInt8) : begs (pre ++ [x]) = begs pre ++ [.int .i64 (off pre : Int)] := by
  unfold begs
  rw [List.length_append, List.length_singleton, List.range_succ, List.map_append]
  congr 1
  · refine List.map_congr_left (fun i hi => ?_)
    have hi := List.mem_range.1 hi
    rw [List.take_append_of_le_length (by omega)]
  · simp
theorem begs_at {pre : List (List UInt8)} {i : Nat} (h : i < pre.length) : (begs pre)[i]? = some (.int .i64 (off (pre.take i) : Int)) := by
  unfold begs
  rw [List.getElem?_map, List.getElem?_range h]
  rfl
/-- the segments that the words say -/
def Pok (S : List Sg) (pre : List (List UInt8)) : Prop := S.map some = pre.map segF
theorem Pok.len {S : List Sg} {pre : List (List UInt8)} (h : Pok S pre) : S.length = pre.length := by
  have := congrArg List.length h
  simpa using this
theorem Pok.snoc {S : List Sg} {pre : List (List UInt8)} {x : List UInt8} {g : Sg} (h : Pok S pre) (hg : segF x = some g) : Pok (S ++ [g]) (pre ++ [x]) := by
  unfold Pok at *
  rw [List.map_append, List.map_append, h, List.map_singleton, List.map_singleton, hg]
theorem Pok.sgb {S : List Sg} {pre : List (List UInt8)} (h : Pok S pre) : ∀ s ∈ S, Rg.SgB s := fun s hs => by
  have : some s ∈ pre.map segF := by rw [← h]; exact List.mem_map.2 ⟨s, hs, rfl⟩
  obtain ⟨x, _, hx⟩ := List.mem_map.1 this
  exact segF_b hx
/-- what stands while the words are gone through -/
structure RI (w : World) (B : Nat) (pre : List (List UInt8)) (V : World) : Prop where
  ex : ∃ sv bv S, Pok S pre ∧ V.heap[w.heap.size + 1 + 1 + 1]? = some (.cells #[sv] 22 (0, 0)) ∧ V.heap[w.heap.size + 1 + 1 + 1 + 1]? = some (.cells #[bv] 115 (0, 0)) ∧ V.ownsRow B 26 3 sv S.length (cells S) ∧ V.ownsRow B 3 1 bv S.length (begs pre)
  b9 : V.heap[w.heap.size + 1 + 1 + 1 + 1 + 1]? = some (.cells #[.int .i64 (off pre : Int)] 3 (0, 0))
  b4 : V.heap[w.heap.size]? = some (.cells #[.pointer none] 27 (0, 0))
  b5 : V.heap[w.heap.size + 1]? = some (.cells #[.int .i64 0] 3 (0, 0))
  b6 : V.heap[w.heap.size + 1 + 1]? = some (.cells #[.int .i64 0] 42 (0, 0))
  bs : ∃ u, V.heap[w.heap.size + 6]? = some (.cells #[u] 9 (0, 0))
  be : Below w.heap.size w V
  sz : B ≤ V.heap.size
structure RX (w : World) (c : Code) (pre : List (List UInt8)) (V : World) : Prop where
  rt : c = .ret
  no : ∃ p x, pre = p ++ [x] ∧ (∀ y ∈ p, segF y ≠ none) ∧ segF x = none ∧ V.heap[w.heap.size + 1]? = some (.cells #[.int .i64 (off p : Int)] 3 (0, 0))
  b4 : V.heap[w.heap.size]? = some (.cells #[.pointer none] 27 (0, 0))
  b6 : V.heap[w.heap.size + 1 + 1]? = some (.cells #[.int .i64 64] 42 (0, 0))
  be : Below w.heap.size w V
theorem RI.own {w : World} {B : Nat} {C : Nat} (hs : w.heap.size ≤ C) : OwnFrom C (fun p V => RI w B p V) := fun p X Z row h hg hr => by
  obtain ⟨sv, bv, S, h1, h2, h3, h4, h5⟩ := h.ex
  obtain ⟨u, hu⟩ := h.bs
  have rk : ∀ {t e n : Nat} {v : Value} {xs : List Value}, X.ownsRow B t e v n xs → Z.ownsRow B t e v n xs := fun hr0 => Rg.own_keep hr0 (fun g e => hg.block g (Rg.own_lt hr0 e) (fun e2 => by
    obtain ⟨_, o, ho, hc⟩ := hr g e2.symm
    obtain ⟨c, e3⟩ := Rg.own_obj hr0 e
    rw [e3] at ho; cases ho; cases hc))
  have bk : ∀ {k : Nat} {c : Array Value} {t : TypeId} {m : Nat × Nat}, X.heap[k]? = some (.cells c t m) → Z.heap[k]? = some (.cells c t m) := fun hh => Rg.own_cells (β := Unit) _ _ _ _ _ () X Z row hh hg hr
  exact ⟨⟨sv, bv, S, h1, bk h2, bk h3, rk h4, rk h5⟩, bk h.b9, bk h.b4, bk h.b5, bk h.b6, ⟨u, bk hu⟩, ownFrom_below (β := Unit) (Nat.le_refl _) hs () X Z row h.be hg hr, Nat.le_trans h.sz hg.size⟩
theorem RX.own {w : World} {c : Code} {C : Nat} (hs : w.heap.size ≤ C) : OwnFrom C (fun p V => RX w c p V) := fun p X Z row h hg hr => by
  obtain ⟨q, x, h1, h2, h3, h4⟩ := h.no
  have bk : ∀ {k : Nat} {c : Array Value} {t : TypeId} {m : Nat × Nat}, X.heap[k]? = some (.cells c t m) → Z.heap[k]? = some (.cells c t m) := fun hh => Rg.own_cells (β := Unit) _ _ _ _ _ () X Z row hh hg hr
  exact ⟨h.rt, ⟨q, x, h1, h2, h3, bk h4⟩, bk h.b4, bk h.b6, ownFrom_below (β := Unit) (Nat.le_refl _) hs () X Z row h.be hg hr⟩
theorem RI.nu {w V V' : World} {B : Nat} {p : List (List UInt8)} (h : RI w B p V) (k : Kp Nu V V') : RI w B p V' := by
  obtain ⟨sv, bv, S, h1, h2, h3, h4, h5⟩ := h.ex
  obtain ⟨u, hu⟩ := h.bs
  have bk : ∀ {g : Nat} {c : Array Value} {t : TypeId}, V.heap[g]? = some (.cells c t (0, 0)) → V'.heap[g]? = some (.cells c t (0, 0)) := fun hh => (k.block _ (Rg.blk_lt hh) (fun e => e)).trans hh
  have rk : ∀ {t e n : Nat} {v : Value} {xs : List Value}, V.ownsRow B t e v n xs → V'.ownsRow B t e v n xs := fun hr => Rg.own_keep hr (fun g e => k.block g (Rg.own_lt hr e) (fun x => x))
  exact ⟨⟨sv, bv, S, h1, bk h2, bk h3, rk h4, rk h5⟩, bk h.b9, bk h.b4, bk h.b5, bk h.b6, ⟨u, bk hu⟩, h.be.trans (k.toBelow.mono h.be.size), Nat.le_trans h.sz k.size⟩
/-- the splitting's own box may turn -/
theorem RI.box {w V : World} {B : Nat} {p : List (List UInt8)} (h : RI w B p V) (v : Value) : RI w B p (V.setCell ⟨w.heap.size + 6, 0, none⟩ v) := by
  obtain ⟨sv, bv, S, h1, h2, h3, h4, h5⟩ := h.ex
  obtain ⟨u, hu⟩ := h.bs
  have k : Kp (fun q => q = w.heap.size + 6) V (V.setCell ⟨w.heap.size + 6, 0, none⟩ v) := (Rg.Kp.refl _ V).andSet _ _ (.inr rfl)
  have bk : ∀ {g : Nat} {c : Array Value} {t : TypeId}, V.heap[g]? = some (.cells c t (0, 0)) → g ≠ w.heap.size + 6 → (V.setCell ⟨w.heap.size + 6, 0, none⟩ v).heap[g]? = some (.cells c t (0, 0)) := fun hh hn => (k.block _ (Rg.blk_lt hh) hn).trans hh
  have rk : ∀ {t e n : Nat} {v' : Value} {xs : List Value}, V.ownsRow B t e v' n xs → t ≠ 9 → (V.setCell ⟨w.heap.size + 6, 0, none⟩ v).ownsRow B t e v' n xs := fun hr ht => Rg.own_keep hr (fun g e => k.block g (Rg.own_lt hr e) (fun e2 => by
    have e2 : g = w.heap.size + 6 := e2
    obtain ⟨c, hc⟩ := Rg.own_obj hr e
    rw [e2, hu] at hc; cases hc; exact ht rfl))
  exact ⟨⟨sv, bv, S, h1, bk h2 (by omega), bk h3 (by omega), rk h4 (by decide), rk h5 (by decide)⟩, bk h.b9 (by omega), bk h.b4 (by omega), bk h.b5 (by omega), bk h.b6 (by omega), ⟨v, Rg.set3 hu 0 v⟩, h.be.trans (k.below w.heap.size h.be.size (fun g e => by have e : g = w.heap.size + 6 := e; omega)), by have := h.sz; simp; exact this⟩
end Go.Proofs.YtffcnonhhfhlhaaDoor.Ws
