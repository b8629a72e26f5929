import Derived.Test.YtckjededijgjgaaDoorNmA
import Derived.Test.YtckjededijgjgaaDoorPcF
import Derived.Test.YtckjededijgjgaaDoorBu
namespace Go.Proofs.YtckjededijgjgaaDoor.Nm
open Go.RowKit Go.Shelf
open Pc (P4 encP pieces Kp cut_in cut_stops kp_t kp_b kp_others)

/-! the builder's frame -/
theorem bld_kept1 {p : Value} {B b : Nat} {bs : List Value} {W W' : World} {row : Option Nat} (h : Lib.BuilderAtF 80 5 B b p bs W) (hg : W.grownBy W' row) (hr : ∀ r, row = some r → r ≠ b ∧ ∀ c fz, W.heap[r]? ≠ some (.cells c 5 fz)) : Lib.BuilderAtF 80 5 B b p bs W' := by
  have hlt := h.lt
  obtain ⟨hB, v, hb, hown, hne⟩ := h
  refine ⟨hB, v, (hg.block b hlt (fun e => (hr b e.symm).1 rfl)).trans hb, hown.kept hg ?_, hne⟩
  cases hv : v.ownBlock with
  | none => exact .inl rfl
  | some g =>
    right
    intro e
    obtain ⟨c, fz, hc⟩ := Lib.ownsRowF_kind hown g hv
    exact (hr g e.symm).2 c fz hc
theorem bld_kept {B b : Nat} {bs : List Value} {W W' : World} {row : Option Nat} (h : Lib.IsBuilderF 80 5 B b bs W) (hg : W.grownBy W' row) (hr : ∀ r, row = some r → r ≠ b ∧ ∀ c fz, W.heap[r]? ≠ some (.cells c 5 fz)) : Lib.IsBuilderF 80 5 B b bs W' :=
  h.elim (fun x => .inl (bld_kept1 x hg hr)) (fun x => .inr (bld_kept1 x hg hr))
theorem bld_block {B b : Nat} {bs : List Value} {W : World} (h : Lib.IsBuilderF 80 5 B b bs W) : ∃ c fz, W.heap[b]? = some (.cells c 80 fz) := by
  rcases h with ⟨_, v, hb, _⟩ | ⟨_, v, hb, _⟩ <;> exact ⟨_, _, hb⟩
theorem bld_turn {B b : Nat} {bs : List Value} {W W' : World} {row : Option Nat} (h : Lib.IsBuilderF 80 5 B b bs W) (hg : W.grownBy W' row) (hr : ∀ r, row = some r → ∃ o : Obj, W.heap[r]? = some o ∧ o.isCells = false) : Lib.IsBuilderF 80 5 B b bs W' := by
  refine bld_kept h hg fun r e => ?_
  obtain ⟨o, ho, hc⟩ := hr r e
  obtain ⟨c, fz, hb⟩ := bld_block h
  refine ⟨fun e => ?_, fun c fz e => ?_⟩
  · subst e; rw [hb] at ho; cases ho; cases hc
  · rw [e] at ho; cases ho; cases hc
theorem bld_set {B b k : Nat} {t : TypeId} {bs : List Value} {W : World} {v : Value} (h : Lib.IsBuilderF 80 5 B b bs W) (hB : Boxed W k t v) (h5 : t ≠ 5) (hk : k ≠ b) (u : Value) : Lib.IsBuilderF 80 5 B b bs (W.setCell ⟨k, 0, none⟩ u) := by
  refine bld_kept h (grownBy_setCell' W k u) fun r e => ?_
  cases e
  refine ⟨hk, fun c fz e => ?_⟩
  have : W.heap[k]? = some (.cells #[v] t (0, 0)) := hB
  rw [this] at e; cases e; exact h5 rfl
theorem others_of {b : Nat} {W W' : World} {B : Nat} {bs : List Value} (h : Lib.OthersKept 5 (some b) W W') (hs : W.heap.size ≤ W'.heap.size) (hb : Lib.IsBuilderF 80 5 B b bs W) : KeepsOthers W W' := by
  obtain ⟨c, fz, hb⟩ := bld_block hb
  refine ⟨hs, fun k o hk ho => h k o hk (fun e => ?_) (fun c fz e => ?_)⟩
  · cases e; rw [hb] at hk; cases hk; cases ho
  · subst e; cases ho
theorem boxed_of {b k : Nat} {t : TypeId} {v : Value} {W W' : World} (h : Lib.OthersKept 5 (some b) W W') (hB : Boxed W k t v) (h5 : t ≠ 5) (hk : k ≠ b) : Boxed W' k t v :=
  h k _ hB (fun e => hk (by cases e; rfl)) (fun c fz e => by cases e; exact h5 rfl)

/-! what Name answers -/
def nameG : List P4 → Nat → List UInt8 → List UInt8 × Int × Int
  | [], _, acc => (acc, 0, 0)
  | x :: t, c, acc => if x.2.2.2 = true then ([], x.2.1, 13) else if (nameF x.1 (c == 0)).2 = true ∧ c ≠ 24 then nameG t (c + 1) (acc ++ Lib.encodeRune (nameF x.1 (c == 0)).1) else ([], x.2.1, 17)
def nameR (s : ByteArray) : List UInt8 × Int × Int := if s.size = 0 then ([], 0, 17) else nameG (pieces s) 0 []

theorem letF_bounds {r x : Int} : ∀ l : List (Int × Int × Int), (∀ y ∈ l, 65 ≤ y.1 ∧ y.2.1 ≤ 1103 ∧ 0 ≤ y.2.2 ∧ y.2.2 ≤ 32) → letF r l = some x → 0 ≤ x ∧ x ≤ 1135
  | [], _, h => by cases h
  | (a, b, f) :: t, hl, h => by
    unfold letF at h
    have := hl _ (List.mem_cons_self ..)
    simp only at this
    split at h
    · cases h; omega
    · exact letF_bounds t (fun y hy => hl y (List.mem_cons_of_mem _ hy)) h
theorem lets_all : ∀ y ∈ lets, 65 ≤ y.1 ∧ y.2.1 ≤ 1103 ∧ 0 ≤ y.2.2 ∧ y.2.2 ≤ 32 := by decide +kernel
theorem nameF_bounds {r v : Int} {f : Bool} (h : nameF r f = (v, true)) : 0 ≤ v ∧ v ≤ 1135 := by
  unfold nameF at h
  split at h
  · rename_i x hx
    cases h
    exact letF_bounds lets lets_all hx
  · simp only [Prod.mk.injEq, Bool.and_eq_true] at h
    obtain ⟨rfl, _, h⟩ := h
    simp [restB] at h
    omega

theorem foldNameRune_is (r v : Int) (first ok : Bool) (w : World) (R off cap : Nat) (hS : Lets w R off cap) (h : nameF r first = (v, ok)) :
    Calls Tryd.prog 51 #[.int .i32 r, .bool first] w fun e w' => e = .returned (.tuple #[.int .i32 v, .bool ok]) ∧ Below w.heap.size w w' := by
  unfold nameF at h
  split at h
  · rename_i x hx
    cases h
    exact foldNameRune_some r _ first w R off cap hS hx
  · rename_i hx
    cases h
    exact foldNameRune_none r first w R off cap hS hx
end Go.Proofs.YtckjededijgjgaaDoor.Nm
