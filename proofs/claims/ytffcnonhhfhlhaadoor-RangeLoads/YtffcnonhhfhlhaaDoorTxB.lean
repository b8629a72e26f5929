import Derived.Test.YtffcnonhhfhlhaaDoorTxA
import Derived.Test.YtffcnonhhfhlhaaDoorLdC
import Derived.Lib.AppendIntMem
import Derived.Deep.RegionHeld
namespace Go.Proofs.YtffcnonhhfhlhaaDoor.Rg
open Go.RowKit Go.Shelf Go.Sort
open Go.Proofs.YtffcnonhhfhlhaaDoor.It
set_option linter.unusedVariables false

/-- a segment's word -/
def wrd (s : Sg) : List UInt8 := Lib.decDigits s.lo.toNat ++ [45] ++ Lib.decDigits s.hi.toNat ++ [58] ++ Lib.decDigits s.h.toNat
/-- a table's text -/
def txt : List Sg → List UInt8
  | [] => []
  | s :: r => wrd s ++ r.flatMap (fun t => 32 :: wrd t)
theorem txt_one (s : Sg) : txt [s] = wrd s := by simp [txt]
theorem txt_snoc (A : List Sg) (s : Sg) (h : A ≠ []) : txt (A ++ [s]) = txt A ++ 32 :: wrd s := by
  cases A with
  | nil => exact absurd rfl h
  | cons a r => simp [txt]
theorem wrd_len {s : Sg} (h : SgB s) : (wrd s).length ≤ 62 ∧ 0 < (wrd s).length := by
  have := dec_len s.lo.toNat (by have := h.l0; have := h.l1; omega)
  have := dec_len s.hi.toNat (by have := h.h0; have := h.h1; omega)
  have := dec_len s.h.toNat (by have := h.o0; have := h.o1; omega)
  simp [wrd]; omega
theorem flat_len : ∀ (r : List Sg), (∀ s ∈ r, SgB s) → (r.flatMap (fun t => 32 :: wrd t)).length ≤ 63 * r.length
  | [], _ => by simp
  | s :: r, h => by
    have h1 := flat_len r (fun t ht => h t (List.mem_cons_of_mem _ ht))
    have h2 := (wrd_len (h s (List.mem_cons_self ..))).1
    simp at h1 ⊢; omega
theorem txt_len : ∀ (L : List Sg), (∀ s ∈ L, SgB s) → (txt L).length ≤ 63 * L.length
  | [], _ => by simp [txt]
  | s :: r, h => by
    have h1 := flat_len r (fun t ht => h t (List.mem_cons_of_mem _ ht))
    have h2 := (wrd_len (h s (List.mem_cons_self ..))).1
    simp [txt] at h1 ⊢; omega
theorem txt_pos {L : List Sg} (h : ∀ s ∈ L, SgB s) (hne : L ≠ []) : 0 < (txt L).length := by
  cases L with
  | nil => exact absurd rfl hne
  | cons s r =>
    have h2 := (wrd_len (h s (List.mem_cons_self ..))).2
    simp [txt]; omega

theorem info5 : (Tryd.prog.info? 5).map (fun i => (i.zero, i.size, i.bytes)) = some (some (.int .u8 0), 1, 1) := by kernel_rfl
theorem new1b (W : World) (z : Int) (j : Nat) (u : Value) (h : ([.int .u8 z] : List Value)[j]? = some u) : (W.alloc (.cells #[.int .u8 z] 5)).cell? ((⟨W.heap.size, 0, none⟩ : Addr).add j) = some u := by
  have e : (⟨W.heap.size, 0, none⟩ : Addr).add j = ⟨W.heap.size, j, none⟩ := by simp [Addr.add]; exact fun h => h.symm
  rw [e, World.cell?_alloc_new]
  simpa using h
theorem conv_row {w : World} {base : Nat} {v : Value} {acc : List UInt8} (h : w.ownsRow base 5 1 v acc.length (Lib.byteCells acc)) : (convert 100 9 v).run Tryd.prog w = .ok (.string ⟨acc.toArray⟩) w := by
  rcases h.2 with ⟨rfl, h0⟩ | ⟨g, cap, cur, rfl, hb, hg, hr⟩
  · obtain rfl := List.eq_nil_of_length_eq_zero h0
    exact run_convert_bytes_nil w 100 5 Tryd.underlying100 Tryd.underlying5 0 0 9 Tryd.underlying9
  · refine run_convert_bytes_back w 100 9 5 ⟨g, 0, none⟩ cap acc Tryd.underlying100 Tryd.underlying5 Tryd.underlying9 (fun j hj => ?_)
    have hc : ∀ j u, (Lib.byteCells acc)[j]? = some u → w.cell? ((⟨g, 0, none⟩ : Addr).add j) = some u := h.cells rfl
    exact hc j _ (by simp [Lib.byteCells, List.getElem?_eq_getElem hj])
theorem own_grown {w1 wr w3 : World} {v : Value} {n : Nat} {xs : List Value} (hk : Kp Nu w1 wr) (ho : wr.ownsRow w1.heap.size 5 1 v n xs) (hg : wr.grownBy w3 v.ownBlock) : Kp Nu w1 w3 :=
  hk.trans (Kp.of_grown hg) (fun i hi e => by have := (ho.lt i e.symm).1; omega)
end Go.Proofs.YtffcnonhhfhlhaaDoor.Rg
