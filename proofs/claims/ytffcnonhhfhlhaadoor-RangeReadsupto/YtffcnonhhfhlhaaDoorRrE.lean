import Derived.Test.YtffcnonhhfhlhaaDoorRrC
import Derived.Test.YtffcnonhhfhlhaaDoorAuL
import Derived.Test.YtffcnonhhfhlhaaDoorTxH
namespace Go.Proofs.YtffcnonhhfhlhaaDoor.Ws
open Go.RowKit Go.Shelf Go.Sort
open Go.Proofs.YtffcnonhhfhlhaaDoor.Rg (Kp Nu Sg cells cellsG lays Frs Lrs)
set_option linter.unusedVariables false
/-- what lies in memory while the document's Read goes on -/
structure Rq (w : World) (B : Nat) (V : World) (S : List Sg) (T : List Value) (ad : Option Addr) (cp : Nat) (ad2 : Option Addr) (cp2 N M : Nat) : Prop where
  o1 : V.ownsRow B 26 3 (.slice ad N cp) N (cells S)
  o2 : V.ownsRow B 3 1 (.slice ad2 M cp2) M T
  rs : V.heap[w.heap.size]? = some (.cells #[.int .i64 0, .slice none 0 0] 29 (0, 0))
  kp : Kp Nu w V
  lo : w.heap.size < B
  hi : B ≤ V.heap.size
section
variable {w V V' : World} {B : Nat} {S : List Sg} {T : List Value} {ad : Option Addr} {cp : Nat} {ad2 : Option Addr} {cp2 N M : Nat}
theorem Rq.nu (h : Rq w B V S T ad cp ad2 cp2 N M) (k : Kp Nu V V') : Rq w B V' S T ad cp ad2 cp2 N M :=
  ⟨Rg.own_keep h.o1 (fun g e => k.block g (Rg.own_lt h.o1 e) (fun x => x)), Rg.own_keep h.o2 (fun g e => k.block g (Rg.own_lt h.o2 e) (fun x => x)), (k.block _ (Rg.blk_lt h.rs) (fun x => x)).trans h.rs, h.kp.andNu k, h.lo, Nat.le_trans h.hi k.size⟩
theorem Rq.push1 {g : Sg} {ad' : Option Addr} {cp' : Nat} (h : Rq w B V S T ad cp ad2 cp2 N M) (ho : V'.ownsRow B 26 3 (.slice ad' (N + 1) cp') (N + 1) (cells S ++ [.int .u64 g.lo, .int .u64 g.hi, .int .u8 g.h])) (hg : V.grownBy V' (Value.slice ad N cp).ownBlock) : Rq w B V' (S ++ [g]) T ad' cp' ad2 cp2 (N + 1) M := by
  have k := Kp.of_grown hg
  refine ⟨by rw [cells_snoc]; exact ho, Rg.own_keep h.o2 (fun q e => k.block q (Rg.own_lt h.o2 e) (fun e2 => ?_)), (k.block _ (Rg.blk_lt h.rs) (fun e2 => ?_)).trans h.rs, h.kp.trans k (fun i hi e2 => ?_), h.lo, Nat.le_trans h.hi k.size⟩
  · obtain ⟨c, hc⟩ := Rg.own_obj h.o2 e
    obtain ⟨c', hc'⟩ := Rg.own_obj h.o1 e2.symm
    rw [hc] at hc'; cases hc'
  · have := (h.o1.lt _ e2.symm).1
    have := h.lo
    omega
  · have := (h.o1.lt _ e2.symm).1
    have := h.lo
    omega
theorem Rq.push2 {x : Value} {ad' : Option Addr} {cp' : Nat} (h : Rq w B V S T ad cp ad2 cp2 N M) (ho : V'.ownsRow B 3 1 (.slice ad' (M + 1) cp') (M + 1) (T ++ [x])) (hg : V.grownBy V' (Value.slice ad2 M cp2).ownBlock) : Rq w B V' S (T ++ [x]) ad cp ad' cp' N (M + 1) := by
  have k := Kp.of_grown hg
  refine ⟨Rg.own_keep h.o1 (fun q e => k.block q (Rg.own_lt h.o1 e) (fun e2 => ?_)), ho, (k.block _ (Rg.blk_lt h.rs) (fun e2 => ?_)).trans h.rs, h.kp.trans k (fun i hi e2 => ?_), h.lo, Nat.le_trans h.hi k.size⟩
  · obtain ⟨c, hc⟩ := Rg.own_obj h.o1 e
    obtain ⟨c', hc'⟩ := Rg.own_obj h.o2 e2.symm
    rw [hc] at hc'; cases hc'
  · have := (h.o2.lt _ e2.symm).1
    have := h.lo
    omega
  · have := (h.o2.lt _ e2.symm).1
    have := h.lo
    omega
/-- the result is laid down -/
theorem Rq.res (h : Rq w B V S T ad cp ad2 cp2 N M) (x y : Value) :
    ((V.setCell ⟨w.heap.size, 0, none⟩ x).setCell ⟨w.heap.size, 1, none⟩ y).heap[w.heap.size]? = some (.cells #[x, y] 29 (0, 0)) ∧ Kp Nu w ((V.setCell ⟨w.heap.size, 0, none⟩ x).setCell ⟨w.heap.size, 1, none⟩ y) :=
  ⟨Rg.set3 (Rg.set3 h.rs 0 x) 1 y, (h.kp.andSet _ _ (.inl (Nat.le_refl _))).andSet _ _ (.inl (Nat.le_refl _))⟩
end
theorem cell_one_new (w : World) (x : Value) (t : TypeId) : ∀ j u, [x][j]? = some u → (w.alloc (.cells #[x] t)).cell? ((⟨w.heap.size, 0, none⟩ : Addr).add j) = some u := fun j u hj => by
  cases j with
  | zero =>
    simp at hj
    subst hj
    exact Rg.cell1 (heap_alloc_new w _)
  | succ j => simp at hj
theorem ext_wrd {l : List UInt8} {pre : List (List UInt8)} {F k : Nat} (e : off pre = F) : ((⟨l.toArray⟩ : ByteArray).extract F k).data.toList = wrdA l pre k := by
  rw [ext_list]
  unfold wrdA
  rw [e, List.drop_take]
/-- the loop's word -/
def Lp (w : World) (B : Nat) (l : List UInt8) (k F N : Nat) (ad : Option Addr) (cp : Nat) (ad2 : Option Addr) (cp2 : Nat) (V : World) : Prop :=
  ∃ pre S, off pre = F ∧ Rst l pre k ∧ Pok S pre ∧ S.length = N ∧ Rq w B V S (begs pre) ad cp ad2 cp2 N N
theorem Lp.le {w V : World} {B k F N : Nat} {l : List UInt8} {ad ad2 : Option Addr} {cp cp2 : Nat} (h : Lp w B l k F N ad cp ad2 cp2 V) : F ≤ k ∧ N ≤ F := by
  obtain ⟨pre, S, h1, h2, h3, h4, _⟩ := h
  have := h2.le
  have := h3.len
  have := len_le_off pre
  omega
theorem all_seg {S : List Sg} {pre : List (List UInt8)} (h : Pok S pre) : ∀ y ∈ pre, segF y ≠ none := fun y hy e => by
  have : segF y ∈ pre.map segF := List.mem_map.2 ⟨y, hy, rfl⟩
  rw [← h, e] at this
  obtain ⟨z, _, hz⟩ := List.mem_map.1 this
  cases hz
end Go.Proofs.YtffcnonhhfhlhaaDoor.Ws
