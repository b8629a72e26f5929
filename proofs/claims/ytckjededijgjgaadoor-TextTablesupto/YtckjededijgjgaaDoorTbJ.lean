import Derived.Test.YtckjededijgjgaaDoorTbI
import Derived.Test.YtckjededijgjgaaDoorEncF
import Derived.Maps.AppendAt
import Derived.Deep.RegionHeld
namespace Go.Proofs.YtckjededijgjgaaDoor.Tb
open Go.RowKit
open Go.Proofs.YtckjededijgjgaaDoor.Wd (Cols)
open Go.Proofs.YtckjededijgjgaaDoor.Enc (Spans)
set_option linter.unusedVariables false

theorem table_len (rows : List (List ByteArray)) : (tableG rows).1.length ≤ 256 := by
  unfold tableG
  split
  · simp
  · split
    · simp
    · simp; omega
def lit : List (List ByteArray) := [[⟨#[97]⟩, ⟨#[98]⟩], [⟨#[99, 99]⟩]]
theorem lit_small : ∀ r ∈ lit, ∀ c ∈ r, c.size ≤ 1048576 := by
  intro r hr c hc
  simp only [lit, List.mem_cons, List.not_mem_nil, or_false] at hr
  rcases hr with rfl | rfl
  · simp only [List.mem_cons, List.not_mem_nil, or_false] at hc
    rcases hc with rfl | rfl <;> decide
  · simp only [List.mem_cons, List.not_mem_nil, or_false] at hc
    subst hc; decide
theorem lit_rs (W : World) : Rs (((W.alloc (.cells #[.string ⟨#[97]⟩, .string ⟨#[98]⟩] 9)).alloc (.cells #[.string ⟨#[99, 99]⟩] 9)).alloc (.cells #[.slice (some ⟨W.heap.size, 0, none⟩) 2 2, .slice (some ⟨W.heap.size + 1, 0, none⟩) 1 1] 34)) (some ⟨W.heap.size + 2, 0, none⟩) lit := by
  have b1 := (Below.refl (W.heap.size + 1) (W.alloc (.cells #[.string ⟨#[97]⟩, .string ⟨#[98]⟩] 9))).alloc (by simp) (.cells #[.string ⟨#[99, 99]⟩] 9)
  have b2 := (Below.refl (W.heap.size + 2) ((W.alloc (.cells #[.string ⟨#[97]⟩, .string ⟨#[98]⟩] 9)).alloc (.cells #[.string ⟨#[99, 99]⟩] 9))).alloc (by simp) (.cells #[.slice (some ⟨W.heap.size, 0, none⟩) 2 2, .slice (some ⟨W.heap.size + 1, 0, none⟩) 1 1] 34)
  have e1 := World.alloc_heap_new W (.cells #[.string ⟨#[97]⟩, .string ⟨#[98]⟩] 9)
  have e2 := World.alloc_heap_new (W.alloc (.cells #[.string ⟨#[97]⟩, .string ⟨#[98]⟩] 9)) (.cells #[.string ⟨#[99, 99]⟩] 9)
  have e3 := World.alloc_heap_new ((W.alloc (.cells #[.string ⟨#[97]⟩, .string ⟨#[98]⟩] 9)).alloc (.cells #[.string ⟨#[99, 99]⟩] 9)) (.cells #[.slice (some ⟨W.heap.size, 0, none⟩) 2 2, .slice (some ⟨W.heap.size + 1, 0, none⟩) 1 1] 34)
  simp only [World.size_alloc] at e2 e3
  have f1 := (b2.block W.heap.size (by omega)).trans ((b1.block W.heap.size (by omega)).trans e1)
  have f2 := (b2.block (W.heap.size + 1) (by omega)).trans e2
  have hsz : (((W.alloc (.cells #[.string ⟨#[97]⟩, .string ⟨#[98]⟩] 9)).alloc (.cells #[.string ⟨#[99, 99]⟩] 9)).alloc (.cells #[.slice (some ⟨W.heap.size, 0, none⟩) 2 2, .slice (some ⟨W.heap.size + 1, 0, none⟩) 1 1] 34)).heap.size = W.heap.size + 3 := by simp
  generalize ((W.alloc (.cells #[.string ⟨#[97]⟩, .string ⟨#[98]⟩] 9)).alloc (.cells #[.string ⟨#[99, 99]⟩] 9)).alloc (.cells #[.slice (some ⟨W.heap.size, 0, none⟩) 2 2, .slice (some ⟨W.heap.size + 1, 0, none⟩) 1 1] 34) = V at *
  intro i hi
  match i, hi with
  | 0, _ =>
    refine ⟨W.heap.size + 2, 0, some ⟨W.heap.size, 0, none⟩, 2, rfl, by omega, by simp [World.cell?, e3, lit], ?_⟩
    intro k hk
    match k, hk with
    | 0, _ => exact ⟨W.heap.size, 0, rfl, by omega, by simp [World.cell?, f1, lit]⟩
    | 1, _ => exact ⟨W.heap.size, 0, rfl, by omega, by simp [World.cell?, f1, lit]⟩
  | 1, _ =>
    refine ⟨W.heap.size + 2, 0, some ⟨W.heap.size + 1, 0, none⟩, 1, rfl, by omega, by simp [World.cell?, e3, lit], ?_⟩
    intro k hk
    match k, hk with
    | 0, _ => exact ⟨W.heap.size + 1, 0, rfl, by omega, by simp [World.cell?, f2, lit]⟩
theorem lit_below (W : World) : Below W.heap.size W (((W.alloc (.cells #[.string ⟨#[97]⟩, .string ⟨#[98]⟩] 9)).alloc (.cells #[.string ⟨#[99, 99]⟩] 9)).alloc (.cells #[.slice (some ⟨W.heap.size, 0, none⟩) 2 2, .slice (some ⟨W.heap.size + 1, 0, none⟩) 1 1] 34)) :=
  (((Below.refl _ _).alloc (Nat.le_refl _) _).alloc (by simp) _).alloc (by simp; omega) _
theorem same_v {l : List ByteArray} (hl : l.length ≤ 256) {w : World} {ad bd : Option Addr} {a b c d : Nat} (ca cb : Nat) (hA : Rv w ad l a b) (hB : Rv w bd l c d) :
    Calls Tryd.prog 47 #[.slice ad l.length ca, .slice bd l.length cb] w fun e w' => e = .returned (.bool true) ∧ Below w.heap.size w w' :=
  (sameLines_any l (by omega) w ad bd ca cb hA.sv hB.sv).mono fun e w' ⟨he, n, hw⟩ => ⟨he, by rw [hw]; exact below_drewN (Below.refl _ w) n⟩
theorem own9_at {w : World} {base n cap : Nat} {ad : Option Addr} {xs : List Value} (h : w.ownsRow base 9 1 (.slice ad n cap) n xs) (k : Nat) (hk : (Value.slice ad n cap).ownBlock = some k) : base ≤ k ∧ k < w.heap.size := by
  rcases own1_slice h with ⟨g, cp, e, h1, h2, _⟩ | ⟨e, _⟩
  · cases e; cases hk; exact ⟨h1, h2⟩
  · cases e; cases hk
end Go.Proofs.YtckjededijgjgaaDoor.Tb
