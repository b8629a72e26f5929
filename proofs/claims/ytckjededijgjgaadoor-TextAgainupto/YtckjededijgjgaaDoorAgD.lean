import Derived.Test.YtckjededijgjgaaDoorTbL
import Derived.Test.YtckjededijgjgaaDoorJnE
import Derived.Laws.AppendOwnNone
import Derived.Deep.Slices
import Derived.Test.YtckjededijgjgaaDoorWdD
import Derived.Test.YtckjededijgjgaaDoorWdE
import Derived.Test.YtckjededijgjgaaDoorEncC
import Derived.Test.YtckjededijgjgaaDoorWdH
import Derived.Test.YtckjededijgjgaaDoorDgB
import Derived.Test.YtckjededijgjgaaDoorRnE
import Derived.Stop.LaidErr
import Derived.Lib.LaidTab
import Derived.Deep.Strs
import Derived.LaidLaws
import Derived.ChangeOld
import Derived.Test.YtckjededijgjgaaDoorCards
import Derived.Test.YtckjededijgjgaaDoorTie
import Derived.Test.YtckjededijgjgaaDoorEncF
import Derived.ProofKit
import Derived.OpenShut
import Derived.Deep.DeepHandedRow
import Derived.Deep.DeepWitnessRowRef
import Derived.Below
import Derived.ShutString
import Derived.JoinedCond
namespace Go.Proofs.YtckjededijgjgaaDoor.Ag
open Go.RowKit
open Go.Deep
open Go.Proofs.YtckjededijgjgaaDoor.Tb
open Go.Proofs.YtckjededijgjgaaDoor.Jn (W3 cells3 cellsW cellsW_get)
set_option linter.unusedVariables false

/-- a row's texts as the source of an append -/
def Src (w : World) (v : Value) (row : List ByteArray) : Prop :=
  (v = .slice none 0 0 ∧ row = []) ∨ ∃ a c, v = .slice (some a) row.length c ∧ ∀ j u, (sCs row)[j]? = some u → w.cell? (a.add j) = some u
theorem src_below {w w' : World} {v : Value} {row : List ByteArray} (h : Src w v row) (hb : Below w.heap.size w w') : Src w' v row := by
  rcases h with h | ⟨a, c, e, hc⟩
  · exact .inl h
  · refine .inr ⟨a, c, e, fun j u hu => ?_⟩
    have h1 := hc j u hu
    exact (hb.cell (World.block_lt_of_cell? w _ h1)).trans h1
theorem one9 (row : List ByteArray) : ∀ u ∈ sCs row, u.oneCell' = true := by
  intro u hu
  obtain ⟨b, _, rfl⟩ := List.mem_map.1 hu
  rfl
theorem append_spread {w : World} {ops : Array Oper} {rest : List Oper} {o : Oper} {a : Act} {Q : Exit → Act → World → Prop} (hgd : o.guard = none) (s x : Operand)
    (ho : o.op = .call { callee := .builtin .append, args := #[s, x], argTypes := #[34, 34] }) (base : Nat) (row : List ByteArray) (hl : row.length ≤ 1048576) (sv : Value)
    (hs : a.eval s = .slice none 0 0) (hx : a.eval x = sv) (hsrc : Src w sv row) (hbase : base ≤ w.heap.size)
    (h : ∀ v' w', w'.ownsRow base 9 1 v' row.length (sCs row) → w.grownBy w' none → wpList Tryd.prog ops Q rest (a.put o.dst v') w') : wpList Tryd.prog ops Q (o :: rest) a w := by
  obtain ⟨i0, hi0, hz0, hz1, hz2⟩ := info_parts info9
  rcases hsrc with ⟨rfl, rfl⟩ | ⟨ad, c, rfl, hc⟩
  · exact wpList_append_own_none hgd s x 34 ho base 9 i0 1 Tryd.underlying34 hi0 _ 0 [] hs (World.ownsRow_nil _ _ _ _) hx (h _ _ (World.ownsRow_nil _ _ _ _) (gb_refl _ _))
  · refine wpList_append_own w hgd s x 34 ho base 9 i0 _ 1 16 Tryd.underlying34 hi0 hz0 hz1 hz2 rfl (by decide) (.slice none 0 0) 0 [] hs (World.ownsRow_nil _ _ _ _) ad row.length c (sCs row) hx (by simp [sCs]) hc (one9 row) (by unfold maxLen; omega) (by omega) hbase ?_
    intro v' w' h1 h2 _
    rw [Nat.zero_add, List.nil_append] at h1
    exact h v' w' h1 h2
theorem gb_none_below {w w' : World} (h : w.grownBy w' none) : Below w.heap.size w w' := (Below.refl _ w).grown h (Nat.le_refl _) (fun j e => by cases e)

/-- two rows of rows lie apart -/
def Ap (u v : Value) : Prop := v.ownBlock = none ∨ v.ownBlock ≠ u.ownBlock
theorem kp_keep {w0 w1 : World} {base n : Nat} {u : Value} {cs cs' : List Value} {rows : List (List ByteArray)} (h34 : w0.ownsRow base 34 1 u n cs) (hk : Kp w0 base cs' rows) (hg : w0.grownBy w1 u.ownBlock) : Kp w1 base cs' rows := fun i hi => by
  obtain ⟨v, hv, ho⟩ := hk i hi
  exact ⟨v, hv, own9_keep ho h34 hg⟩
theorem own_blk {w : World} {base n : Nat} {t : TypeId} {v : Value} {xs : List Value} (h : w.ownsRow base t 1 v n xs) (k : Nat) (hk : v.ownBlock = some k) : base ≤ k ∧ k < w.heap.size := by
  rcases h.2 with ⟨rfl, _⟩ | ⟨g, cap, cur, rfl, hgb, hg, _⟩
  · cases hk
  · cases hk; exact ⟨hgb, (Array.getElem?_eq_some_iff.1 hg).1⟩
theorem grow_two {w0 w1 : World} {base n m : Nat} {u u' v x : Value} {cs cs' : List Value} {rows rows' : List (List ByteArray)} {row : List ByteArray}
    (hu : w0.ownsRow base 34 1 u n cs) (hn : n = rows.length) (hv : w0.ownsRow base 34 1 v m cs') (hA : Ap u v) (hA' : Ap v u) (hk : Kp w0 base cs rows) (hk' : Kp w0 base cs' rows') (h9 : w0.ownsRow base 9 1 x row.length (sCs row))
    (hg : w0.grownBy w1 u.ownBlock) (hob : u'.ownBlock = u.ownBlock ∨ u'.ownBlock = some w0.heap.size) :
    w1.ownsRow base 34 1 v m cs' ∧ Ap u' v ∧ Ap v u' ∧ Kp w1 base (cs ++ [x]) (rows ++ [row]) ∧ Kp w1 base cs' rows' := by
  have hne : v.ownBlock ≠ some w0.heap.size := fun e => by have := (own_blk hv _ e).2; omega
  refine ⟨hv.kept hg hA, ?_, ?_, kp_snoc hu hn hk h9 hg, kp_keep hu hk' hg⟩
  · rcases hob with e | e
    · unfold Ap; rw [e]; exact hA
    · exact .inr (by rw [e]; exact hne)
  · rcases hob with e | e
    · unfold Ap; rw [e]; exact hA'
    · exact .inr (by rw [e]; exact fun h => hne h.symm)

/-- rows whose cells are short texts, in blocks between two bounds -/
def Mi (W : World) (lo hi : Nat) (cs : List Value) : Prop := ∀ i, i < cs.length → ∃ adr len cp, cs[i]? = some (.slice adr len cp) ∧ len ≤ 1048576 ∧ ∀ j, j < len → ∃ g s, adr = some ⟨g, 0, none⟩ ∧ lo ≤ g ∧ g < hi ∧ (∃ cur, W.heap[g]? = some (.cells cur 9 (0, 0))) ∧ W.cell? ⟨g, j, none⟩ = some (.string s) ∧ s.size ≤ 1048576
theorem mi_of {w : World} {base : Nat} {cs : List Value} {rows : List (List ByteArray)} (hl : cs.length = rows.length) (h : Kp w base cs rows) (hr : ∀ r ∈ rows, r.length ≤ 1048576) (hz : ∀ r ∈ rows, ∀ c ∈ r, c.size ≤ 1048576) : Mi w base w.heap.size cs := by
  intro i hi
  have hi' : i < rows.length := by omega
  obtain ⟨v, hv, ho⟩ := h i hi'
  have hlen := hr _ (List.getElem_mem hi')
  have hzz := hz _ (List.getElem_mem hi')
  generalize rows[i] = row at *
  rcases ho.2 with ⟨rfl, h0⟩ | ⟨g, cap, cur, rfl, hgb, hg, h1, h2, h3, h4⟩
  · exact ⟨none, 0, 0, hv, by omega, fun j hj => by omega⟩
  · refine ⟨some ⟨g, 0, none⟩, row.length, cap, hv, hlen, fun j hj => ⟨g, row[j], rfl, hgb, (Array.getElem?_eq_some_iff.1 hg).1, ⟨cur, hg⟩, ?_, hzz _ (List.getElem_mem hj)⟩⟩
    have : w.cell? ⟨g, j, none⟩ = (sCs row)[j]? := by
      rw [← h4, List.getElem?_take_of_lt (by omega), Array.getElem?_toList]
      simp [World.cell?, hg]
    rw [this]
    simp [sCs, hj]
theorem Mi.below {w w' : World} {lo hi : Nat} {cs : List Value} (h : Mi w lo hi cs) (hb : Below hi w w') : Mi w' lo hi cs := by
  intro i hi'
  obtain ⟨adr, len, cp, h1, h2, h3⟩ := h i hi'
  refine ⟨adr, len, cp, h1, h2, fun j hj => ?_⟩
  obtain ⟨g, s, e, a1, a2, ⟨cur, hc⟩, hcell, hs⟩ := h3 j hj
  exact ⟨g, s, e, a1, a2, ⟨cur, (hb.block g a2).trans hc⟩, (hb.cell (p := ⟨g, j, none⟩) a2).trans hcell, hs⟩
theorem set_heap9 {w : World} {g g' j : Nat} {u : Value} (h : ∃ cur, w.heap[g]? = some (.cells cur 9 (0, 0))) : ∃ cur, (w.setCell ⟨g', j, none⟩ u).heap[g]? = some (.cells cur 9 (0, 0)) := by
  obtain ⟨cur, hc⟩ := h
  by_cases e : g = g'
  · subst e
    exact ⟨_, heap_setCell_same w g j cur 9 u hc⟩
  · exact ⟨cur, (Below.heap_setCell _ _ _ _ (fun h => e h)).trans hc⟩
theorem set_cell9 {w : World} {g g' j k : Nat} {s o : ByteArray} (h : ∃ cur, w.heap[g]? = some (.cells cur 9 (0, 0))) (hc : w.cell? ⟨g, j, none⟩ = some (.string s)) (hs : s.size ≤ 1048576) (ho : o.size ≤ 1048576) : ∃ s', (w.setCell ⟨g', k, none⟩ (.string o)).cell? ⟨g, j, none⟩ = some (.string s') ∧ s'.size ≤ 1048576 := by
  obtain ⟨cur, hg⟩ := h
  by_cases e : g = g'
  · subst e
    have h2 := heap_setCell_same w g k cur 9 (.string o) hg
    simp only [World.cell?, hg] at hc
    by_cases ej : j = k
    · subst ej
      refine ⟨o, ?_, ho⟩
      have hlt : j < cur.size := by
        rcases Nat.lt_or_ge j cur.size with h | h
        · exact h
        · simp [Array.getElem?_eq_none h] at hc
      simp [World.cell?, h2, hlt]
    · refine ⟨s, ?_, hs⟩
      simp only [World.cell?, h2]
      simpa [Array.getElem?_setIfInBounds, Ne.symm ej] using hc
  · exact ⟨s, (World.cell?_of_block (a := ⟨g, j, none⟩) (Below.heap_setCell _ _ _ _ (fun h => e h))).trans hc, hs⟩
theorem Mi.set {w : World} {lo hi : Nat} {cs : List Value} (h : Mi w lo hi cs) (g' k : Nat) (o : ByteArray) (ho : o.size ≤ 1048576) : Mi (w.setCell ⟨g', k, none⟩ (.string o)) lo hi cs := by
  intro i hi'
  obtain ⟨adr, len, cp, h1, h2, h3⟩ := h i hi'
  refine ⟨adr, len, cp, h1, h2, fun j hj => ?_⟩
  obtain ⟨g, s, e, a1, a2, hcur, hcell, hs⟩ := h3 j hj
  obtain ⟨s', hs1, hs2⟩ := set_cell9 (g' := g') (k := k) hcur hcell hs ho
  exact ⟨g, s', e, a1, a2, set_heap9 hcur, hs1, hs2⟩
/-- the rows that memory holds now -/
theorem mi_rs {w : World} {base lo hi n : Nat} {v : Value} {cs : List Value} (h : w.ownsRow base 34 1 v n cs) (hM : Mi w lo hi cs) (hhi : hi ≤ w.heap.size) : ∃ (rows : List (List ByteArray)) (ad : Option Addr) (cap : Nat), rows.length = n ∧ v = .slice ad rows.length cap ∧ Rs w ad rows ∧ ∀ r ∈ rows, ∀ c ∈ r, c.size ≤ 1048576 := by
  have hcl : cs.length = n := by have := h.1; omega
  haveI : Inhabited ByteArray := ⟨⟨#[]⟩⟩
  have each : ∀ i, i < n → ∃ r : List ByteArray, (∃ adr cp, cs[i]? = some (.slice adr r.length cp) ∧ Sv w adr r) ∧ ∀ c ∈ r, c.size ≤ 1048576 := by
    intro i hi
    obtain ⟨adr, len, cp, h1, h2, h3⟩ := hM i (by omega)
    have h4 : ∀ j, j < len → ∃ s : ByteArray, (∃ g, adr = some ⟨g, 0, none⟩ ∧ g < w.heap.size ∧ w.cell? ⟨g, j, none⟩ = some (.string s)) ∧ s.size ≤ 1048576 := by
      intro j hj
      obtain ⟨g, s, e, a1, a2, _, hcell, hs⟩ := h3 j hj
      exact ⟨s, ⟨g, e, by omega, hcell⟩, hs⟩
    obtain ⟨f, hf⟩ := choose_lt (α := ByteArray) h4
    refine ⟨(List.range len).map f, ⟨adr, cp, by rw [List.length_map, List.length_range]; exact h1, fun k hk => ?_⟩, fun c hc => ?_⟩
    · have hk' : k < len := by simpa using hk
      obtain ⟨⟨g, e, hg, hcell⟩, _⟩ := hf k hk'
      refine ⟨g, 0, e, hg, ?_⟩
      rw [Nat.zero_add, hcell]
      simp
    · obtain ⟨k, hk, rfl⟩ := List.mem_map.1 hc
      exact (hf k (by simpa using hk)).2
  obtain ⟨f, hf⟩ := choose_lt (α := List ByteArray) each
  have hlen : ((List.range n).map f).length = n := by rw [List.length_map, List.length_range]
  have hsm : ∀ r ∈ (List.range n).map f, ∀ c ∈ r, c.size ≤ 1048576 := by
    intro r hr
    obtain ⟨k, hk, rfl⟩ := List.mem_map.1 hr
    exact (hf k (by simpa using hk)).2
  rcases h.2 with ⟨e, h0⟩ | ⟨g, cap, cur, e, hgb, hg, h1, h2, h3, h4⟩
  · subst h0
    exact ⟨_, none, 0, hlen, by rw [hlen]; exact e, fun k hk => by rw [hlen] at hk; omega, hsm⟩
  · refine ⟨_, some ⟨g, 0, none⟩, cap, hlen, by rw [hlen]; exact e, fun i hi => ?_, hsm⟩
    have hi' : i < n := by rw [hlen] at hi; exact hi
    obtain ⟨⟨adr, cp, hc, hS⟩, _⟩ := hf i hi'
    have e2 : ((List.range n).map f)[i] = f i := by simp
    rw [e2]
    refine ⟨g, 0, adr, cp, rfl, (Array.getElem?_eq_some_iff.1 hg).1, ?_, hS⟩
    rw [← hc, ← h4, List.getElem?_take_of_lt (by omega), Array.getElem?_toList, Nat.zero_add]
    simp [World.cell?, hg]
/-- a row stands when a cell of another type's block is written -/
theorem own_set_other {w : World} {base n z g j : Nat} {t t' : TypeId} {v u : Value} {xs : List Value} (h : w.ownsRow base t z v n xs) (hg : ∃ cur, w.heap[g]? = some (.cells cur t' (0, 0))) (ht : t' ≠ t) : (w.setCell ⟨g, j, none⟩ u).ownsRow base t z v n xs := by
  obtain ⟨hl, ho⟩ := h
  obtain ⟨cur, hcur⟩ := hg
  refine ⟨hl, ?_⟩
  rcases ho with ho | ⟨g', cap, cur', e1, e2, hg', e3⟩
  · exact .inl ho
  · refine .inr ⟨g', cap, cur', e1, e2, (Below.heap_setCell _ _ _ _ (fun e => ?_)).trans hg', e3⟩
    simp only at e
    subst e
    rw [hcur] at hg'
    cases hg'
    exact ht rfl
theorem rv_set {w : World} {ad : Option Addr} {l : List ByteArray} {lo hi g j : Nat} {u : Value} (h : Rv w ad l lo hi) (hg : g < lo) : Rv (w.setCell ⟨g, j, none⟩ u) ad l lo hi := by
  refine ⟨fun k hk => ?_, h.at_⟩
  obtain ⟨g', off, h0, h1, c0⟩ := h.sv k hk
  obtain ⟨a1, a2⟩ := h.at_ _ h0
  simp only at a1
  exact ⟨g', off, h0, by simpa [World.setCell] using h1, (World.cell?_of_block (a := ⟨g', off + k, none⟩) (Below.heap_setCell _ _ _ _ (fun e => by simp only at e; omega))).trans c0⟩
theorem cellsW_set : ∀ (l : List W3) (k : Nat) (hk : k < l.length) (o : ByteArray), (cellsW l).set (k * 3) (.string o) = cellsW (l.set k (o, l[k].2))
  | [], k, hk, _ => by simp at hk
  | x :: t, 0, hk, o => by simp [cellsW, cells3]
  | x :: t, k + 1, hk, o => by
    have hk' : k < t.length := by simpa using hk
    have := cellsW_set t k hk' o
    show (cells3 x ++ cellsW t).set ((k + 1) * 3) _ = cells3 x ++ cellsW (t.set k (o, t[k].2))
    rw [← this, List.set_append_right _ _ (by simp [cells3]; omega)]
    congr 2
    simp [cells3]; omega
/-- a word of a row gets another text -/
theorem own_word {w : World} {base g cap : Nat} {t : TypeId} {l : List W3} (h : w.ownsRow base t 3 (.slice (some ⟨g, 0, none⟩) l.length cap) l.length (cellsW l)) (k : Nat) (hk : k < l.length) (o : ByteArray) : (w.setCell ⟨g, k * 3, none⟩ (.string o)).ownsRow base t 3 (.slice (some ⟨g, 0, none⟩) l.length cap) l.length (cellsW (l.set k (o, l[k].2))) := by
  obtain ⟨hl, ho⟩ := h
  rcases ho with ⟨e, _⟩ | ⟨g', cap', cur, e, hgb, hg, h1, h2, h3, h4⟩
  · cases e
  · cases e
    rw [← cellsW_set l k hk o]
    refine ⟨by simpa using hl, .inr ⟨g, cap, cur.setIfInBounds (k * 3) (.string o), rfl, hgb, heap_setCell_same w g (k * 3) cur t _ hg, h1, h2, by simpa using h3, ?_⟩⟩
    rw [Array.toList_setIfInBounds, List.take_set, h4]
end Go.Proofs.YtckjededijgjgaaDoor.Ag
namespace Go.Proofs.YtckjededijgjgaaDoor.Ag
open Go.RowKit
open Go.Proofs.YtckjededijgjgaaDoor.Tb
open Go.Proofs.YtckjededijgjgaaDoor.Jn (W3 Ws cells3 cellsW cellsW_get)
set_option linter.unusedVariables false

/-- what stands while the lists are written over -/
structure Sx (w W : World) (zc z5 : Nat) (vM : Value) (N : Nat) (cs : List Value) (adA adW : Option Addr) (L : List ByteArray) (lo1 hi1 lo2 hi2 : Nat) (adl adw : Option Addr) (n cpl cpw : Nat) (l : List W3) : Prop where
  bel : Below w.heap.size w W
  big : z5 ≤ W.heap.size
  row : W.ownsRow w.heap.size 34 1 vM N cs
  mi : Mi W w.heap.size zc cs
  ra : Rv W adA L lo1 hi1
  rw : Rv W adW L lo2 hi2
  ol : W.ownsRow zc 40 3 (.slice adl n cpl) n (cellsW l)
  ow : W.ownsRow zc 41 3 (.slice adw n cpw) n (cellsW l)
section
variable {w W : World} {zc z5 N n cpl cpw lo1 hi1 lo2 hi2 : Nat} {vM : Value} {cs : List Value} {adA adW adl adw : Option Addr} {L : List ByteArray} {l : List W3}
theorem size_set (W : World) (p : Addr) (u : Value) : (W.setCell p u).heap.size = W.heap.size := by simp [World.setCell]
theorem Sx.store (h : Sx w W zc z5 vM N cs adA adW L lo1 hi1 lo2 hi2 adl adw n cpl cpw l) {g j : Nat} {o : ByteArray} (ho : o.size ≤ 1048576) (hg9 : ∃ cur, W.heap[g]? = some (.cells cur 9 (0, 0))) (h0 : w.heap.size ≤ g) (h1 : g < lo1) (h2 : g < lo2) :
    Sx w (W.setCell ⟨g, j, none⟩ (.string o)) zc z5 vM N cs adA adW L lo1 hi1 lo2 hi2 adl adw n cpl cpw l :=
  ⟨h.bel.setCell (p := ⟨g, j, none⟩) h0 _, by rw [size_set]; exact h.big, own_set_other h.row hg9 (by decide), h.mi.set g j o ho, rv_set h.ra h1, rv_set h.rw h2, own_set_other h.ol hg9 (by decide), own_set_other h.ow hg9 (by decide)⟩
theorem row_block {t : TypeId} {ad : Option Addr} {base cap : Nat} (h : W.ownsRow base t 3 (.slice ad n cap) n (cellsW l)) (hl : l.length = n) {k : Nat} (hk : k < n) : ∃ g cur, ad = some ⟨g, 0, none⟩ ∧ base ≤ g ∧ W.heap[g]? = some (.cells cur t (0, 0)) ∧ (∃ u, W.cell? ⟨g, k * 3, none⟩ = some u) ∧ W.frozen? ⟨g, k * 3, none⟩ = false := by
  rcases h.2 with ⟨e, h0⟩ | ⟨g, cp, cur, e, hgb, hg, h1, h2, h3, h4⟩
  · omega
  · cases e
    have : k * 3 < cur.size := by rw [h3]; omega
    refine ⟨g, cur, rfl, hgb, hg, ⟨cur[k * 3], by simp [World.cell?, hg, this]⟩, frozen_of_row W g (k * 3) cur t hg⟩
theorem Sx.word40 (h : Sx w W zc z5 vM N cs adA adW L lo1 hi1 lo2 hi2 adl adw n cpl cpw l) (hl : l.length = n) {g k : Nat} (hk : k < n) {o : ByteArray} (ho : o.size ≤ 1048576) {cur : Array Value} (had : adl = some ⟨g, 0, none⟩) (hg9 : W.heap[g]? = some (.cells cur 40 (0, 0))) (h0 : w.heap.size ≤ g) (h1 : g < lo1) (h2 : g < lo2) :
    Below w.heap.size w (W.setCell ⟨g, k * 3, none⟩ (.string o)) ∧ z5 ≤ (W.setCell ⟨g, k * 3, none⟩ (.string o)).heap.size ∧ (W.setCell ⟨g, k * 3, none⟩ (.string o)).ownsRow w.heap.size 34 1 vM N cs ∧ Mi (W.setCell ⟨g, k * 3, none⟩ (.string o)) w.heap.size zc cs ∧ Rv (W.setCell ⟨g, k * 3, none⟩ (.string o)) adA L lo1 hi1 ∧ Rv (W.setCell ⟨g, k * 3, none⟩ (.string o)) adW L lo2 hi2 ∧ (W.setCell ⟨g, k * 3, none⟩ (.string o)).ownsRow zc 40 3 (.slice adl n cpl) n (cellsW (l.set k (o, (l.getD k (⟨#[]⟩, false, 0)).2))) ∧ (W.setCell ⟨g, k * 3, none⟩ (.string o)).ownsRow zc 41 3 (.slice adw n cpw) n (cellsW l) := by
  subst hl had
  have e : l.getD k (⟨#[]⟩, false, 0) = l[k] := by rw [List.getD_eq_getElem?_getD, List.getElem?_eq_getElem hk]; rfl
  rw [e]
  exact ⟨h.bel.setCell (p := ⟨g, k * 3, none⟩) h0 _, by rw [size_set]; exact h.big, own_set_other h.row ⟨cur, hg9⟩ (by decide), h.mi.set g (k * 3) o ho, rv_set h.ra h1, rv_set h.rw h2, own_word h.ol k hk o, own_set_other h.ow ⟨cur, hg9⟩ (by decide)⟩
theorem word41 {l' : List W3} {x : W3} (hl : l.length = n) {g k : Nat} (hk : k < n) {o : ByteArray} (ho : o.size ≤ 1048576) {cur : Array Value} (had : adw = some ⟨g, 0, none⟩) (hg9 : W.heap[g]? = some (.cells cur 41 (0, 0))) (h0 : w.heap.size ≤ g) (h1 : g < lo1) (h2 : g < lo2)
    (a1 : Below w.heap.size w W) (a2 : z5 ≤ W.heap.size) (a3 : W.ownsRow w.heap.size 34 1 vM N cs) (a4 : Mi W w.heap.size zc cs) (a5 : Rv W adA L lo1 hi1) (a6 : Rv W adW L lo2 hi2) (a7 : W.ownsRow zc 40 3 (.slice adl n cpl) n (cellsW (l.set k (o, (l.getD k (⟨#[]⟩, false, 0)).2)))) (a8 : W.ownsRow zc 41 3 (.slice adw n cpw) n (cellsW l)) :
    Sx w (W.setCell ⟨g, k * 3, none⟩ (.string o)) zc z5 vM N cs adA adW L lo1 hi1 lo2 hi2 adl adw n cpl cpw (l.set k (o, (l.getD k (⟨#[]⟩, false, 0)).2)) := by
  subst hl had
  have e : l.getD k (⟨#[]⟩, false, 0) = l[k] := by rw [List.getD_eq_getElem?_getD, List.getElem?_eq_getElem hk]; rfl
  rw [e] at a7 ⊢
  exact ⟨a1.setCell (p := ⟨g, k * 3, none⟩) h0 _, by rw [size_set]; exact a2, own_set_other a3 ⟨cur, hg9⟩ (by decide), a4.set g (k * 3) o ho, rv_set a5 h1, rv_set a6 h2, own_set_other a7 ⟨cur, hg9⟩ (by decide), own_word a8 k hk o⟩
theorem row34_cell {ad : Option Addr} {cap base : Nat} (h : W.ownsRow base 34 1 (.slice ad n cap) n cs) {i : Nat} (hi : i < n) : ∃ g, ad = some ⟨g, 0, none⟩ ∧ W.cell? ⟨g, i, none⟩ = cs[i]? := by
  rcases h.2 with ⟨e, h0⟩ | ⟨g, cp, cur, e, hgb, hg, h1, h2, h3, h4⟩
  · omega
  · cases e
    refine ⟨g, rfl, ?_⟩
    rw [← h4, List.getElem?_take_of_lt (by omega), Array.getElem?_toList]
    simp [World.cell?, hg]
theorem small_set {o : ByteArray} (ho : o.size ≤ 1048576) (h : ∀ x ∈ l, x.1.size ≤ 1048576) (k : Nat) (y : Bool × Int) : ∀ x ∈ l.set k (o, y), x.1.size ≤ 1048576 := by
  intro x hx
  rcases List.mem_or_eq_of_mem_set hx with h1 | h1
  · exact h x h1
  · rw [h1]; exact ho
end
end Go.Proofs.YtckjededijgjgaaDoor.Ag
namespace Go.Proofs.YtckjededijgjgaaDoor.Ag
open Go.RowKit
open Go.Proofs.YtckjededijgjgaaDoor.Tb
open Go.Proofs.YtckjededijgjgaaDoor.Jn (W3 Ws cells3 cellsW cellsW_snoc new3 one3 info40 info41 own3_grown row_grow ws_of join_any refJoin_any joinG str_beq)
open Go.Proofs.YtckjededijgjgaaDoor.Wd (Cols)
open Go.Proofs.YtckjededijgjgaaDoor.Enc (Spans)
open Go.Proofs.YtckjededijgjgaaDoor.Hx (Tabs)
open Go.Proofs.YtckjededijgjgaaDoor.Qt (tabs_below)
open Go.Proofs.YtckjededijgjgaaDoor.Uq (three)
set_option linter.unusedVariables false

/-- rows that came in, each to be copied -/
def Rz (w : World) (ad : Option Addr) (rows : List (List ByteArray)) : Prop := ∀ i (hi : i < rows.length), ∃ g off v, ad = some ⟨g, off, none⟩ ∧ g < w.heap.size ∧ w.cell? ⟨g, off + i, none⟩ = some v ∧ Src w v rows[i] ∧ v.cells = #[v]
theorem Wo_own {w w' : World} {base n : Nat} {t : TypeId} {v : Value} {l : List Value} (h : w.ownsRow base t 3 v n l) (hb : Below w.heap.size w w') : w'.ownsRow base t 3 v n l := by
  obtain ⟨hl, ho⟩ := h
  refine ⟨hl, ?_⟩
  rcases ho with ho | ⟨g, cap, cur, e1, e2, hg, e3⟩
  · exact .inl ho
  · exact .inr ⟨g, cap, cur, e1, e2, (hb.block g (Array.getElem?_eq_some_iff.1 hg).1).trans hg, e3⟩
theorem ap_nil : Ap (.slice none 0 0) (.slice none 0 0) := .inl rfl
theorem own_flat {w : World} {base n : Nat} {t : TypeId} {v : Value} {xs : List Value} (h : w.ownsRow base t 1 v n xs) : ∃ ad cap, v = .slice ad n cap := by
  rcases h.2 with ⟨e, h0⟩ | ⟨g, cap, cur, e, _⟩
  · exact ⟨none, 0, by rw [e, h0]⟩
  · exact ⟨_, _, e⟩

set_option maxRecDepth 100000 in
set_option maxHeartbeats 16000000 in
theorem again_walk (CO : Cols) (rows : List (List ByteArray)) (hn : rows.length ≤ 1048576) (hr : ∀ r ∈ rows, r.length ≤ 1048576) (hz : ∀ r ∈ rows, ∀ c ∈ r, c.size ≤ 1048576) (vs : List ByteArray) (hvn : vs.length ≤ 1048576) (hvz : ∀ c ∈ vs, c.size ≤ 1048576) (ot : ByteArray) (hot : ot.size ≤ 1048576)
    (w : World) (ad : Option Addr) (cap : Nat) (hV : Rz w ad rows) (bd : Option Addr) (capb : Nat) (hU : Sv w bd vs) (hT : Tabs w) (R off cap' : Nat) (hS : Spans w R off cap') :
    Calls Tryd.prog 18 #[.slice ad rows.length cap, .slice bd vs.length capb, .string ot] w fun e w' => e = .returned (.bool true) ∧ Below w.heap.size w w' := by
  obtain ⟨i0, hi0, hz0, hz1, hz2⟩ := info_parts info9
  obtain ⟨k0, hk0, kz0, kz1, kz2⟩ := info_parts info34
  obtain ⟨p0, hp0, pz0, pz1, pz2⟩ := info_parts info40
  obtain ⟨q0, hq0, qz0, qz1, qz2⟩ := info_parts info41
  have h5 := hT.five
  have HTB := hide (fun (rs : List (List ByteArray)) (hzz : ∀ r ∈ rs, ∀ c ∈ r, c.size ≤ 1048576) (W : World) (hb : Below w.heap.size w W) (ad' : Option Addr) (cp' : Nat) (hv : Rs W ad' rs) => table_any rs hzz W ad' cp' hv R off cap' (hS.below hb (Nat.le_refl _)))
  have HRT := hide (fun (rs : List (List ByteArray)) (hzz : ∀ r ∈ rs, ∀ c ∈ r, c.size ≤ 1048576) (W : World) (ad' : Option Addr) (cp' : Nat) (hv : Rs W ad' rs) => refTable_of CO rs hzz W ad' cp' hv)
  have HJN := hide (fun (l : List W3) (hzz : ∀ x ∈ l, x.1.size ≤ 1048576) (W : World) (hb : Below w.heap.size w W) (ad' : Option Addr) (cp' : Nat) (hv : Ws W ad' l) => join_any l hzz W ad' cp' hv (tabs_below hT hb h5) R off cap' (hS.below hb (Nat.le_refl _)))
  have HRJ := hide (fun (l : List W3) (hzz : ∀ x ∈ l, x.1.size ≤ 1048576) (W : World) (ad' : Option Addr) (cp' : Nat) (hv : Ws W ad' l) => refJoin_any l hzz W ad' cp' hv)
  have HRL := hide hr
  have HRZ := hide hz
  have HVV := hide hV
  have HUU := hide hU
  have HVZ := hide hvz
  have HOT := hide hot
  have hotI : (ot.size : Int) ≤ 1048576 := by omega
  have HT0 : Hid (rows.take rows.length = rows) := List.take_length
  have HTS : Hid (∀ i (hi : i < rows.length), rows.take (i + 1) = rows.take i ++ [rows[i]]) := fun i hi => List.take_succ_eq_append_getElem hi
  have HTL : Hid (∀ i, i ≤ rows.length → (rows.take i).length = i) := fun i hi => by rw [List.length_take]; omega
  clear hr hz hV hU hvz hS hT hot h5
  obtain ⟨N, hN⟩ : ∃ N, rows.length = N := ⟨_, rfl⟩
  have HN := hide hN
  obtain ⟨M, hM⟩ : ∃ M, vs.length = M := ⟨_, rfl⟩
  have HM := hide hM
  rw [hN] at hn ⊢
  rw [hM] at hvn ⊢
  clear hN hM
  have hNI : (N : Int) ≤ 1048576 := by omega
  have hMI : (M : Int) ≤ 1048576 := by omega
  go_enter Tryd.func18, Tryd.ntmps18
  go_wp2_with fail
  go_loopw [7, 8, 11] (fun vm vf kv wr => ∃ (i : Nat) (cs cf : List Value), kv = .int .i64 (i : Int) ∧ i ≤ N ∧ Below w.heap.size w wr ∧ wr.ownsRow w.heap.size 34 1 vm i cs ∧ wr.ownsRow w.heap.size 34 1 vf i cf ∧ Hid (Ap vm vf) ∧ Hid (Ap vf vm) ∧ Hid (Kp wr w.heap.size cs (rows.take i)) ∧ Hid (Kp wr w.heap.size cf (rows.take i))) (fun _ _ kv _ => N - (intOf kv).toNat)
  case atStart => exact ⟨0, [], [], rfl, by omega, Below.refl _ _, World.ownsRow_nil _ _ _ _, World.ownsRow_nil _ _ _ _, ap_nil, ap_nil, fun i hi => by simp at hi, fun i hi => by simp at hi⟩
  case round =>
    generalize wr = wl at *
    obtain ⟨i, cs, cf, rfl, hi, hB, hm, hf, HA1, HA2, HK1, HK2⟩ := hrel
    have hBs := hB.size
    by_cases hlt : i < N
    · have hil : i < rows.length := by rw [HN.out]; exact hlt
      have hltI : (i : Int) < (N : Int) := by omega
      obtain ⟨g, o, sv, rfl, hg, c00, hsrc, hsvc⟩ := HVV.out i hil
      have hgl : g < wl.heap.size := by omega
      have c01 := (hB.cell (p := ⟨g, o + i, none⟩) hg).trans c00
      have HSR : Hid (∀ W, Below w.heap.size w W → Src W sv rows[i]) := fun W hb => src_below hsrc hb
      have HC : Hid (∀ W, Below w.heap.size w W → W.cell? ⟨g, o + i, none⟩ = some sv) := fun W hb => (hb.cell (p := ⟨g, o + i, none⟩) hg).trans c00
      have hrl := HRL.out _ (List.getElem_mem hil)
      have HTS2 := hide (HTS.out i hil)
      have HTL2 := hide (HTL.out i (by omega))
      generalize rows[i] = row at *
      clear c00 hsrc HVV HUU HTB HRT HJN HRJ HRL HRZ HT0 HTS HTL
      go_wp2_with (first
        | (at_builtin; refine append_spread rfl _ _ rfl w.heap.size row hrl sv rfl rfl (HSR.out wl hB) hBs ?_; intro v1 w1 h91 hgb1; have hb1 := gb_none_below hgb1; have hB1 := hB.trans (hb1.mono hB.size); have hBs1 := hB1.size; obtain ⟨ad1, cp1, e1⟩ := own_flat h91; subst e1; have hm1 := (ownT_below hm hb1).alloc (.cells #[.slice ad1 row.length cp1] 34); have hf1 := (ownT_below hf hb1).alloc (.cells #[.slice ad1 row.length cp1] 34); have h91a := h91.alloc (.cells #[.slice ad1 row.length cp1] 34); have HK1a := hide (kp_below (kp_below HK1.out hb1) ((Below.refl w1.heap.size w1).alloc (Nat.le_refl _) (.cells #[.slice ad1 row.length cp1] 34))); have HK2a := hide (kp_below (kp_below HK2.out hb1) ((Below.refl w1.heap.size w1).alloc (Nat.le_refl _) (.cells #[.slice ad1 row.length cp1] 34))))
        | (at_builtin; refine wpList_append_own_at _ rfl _ _ 67 rfl w.heap.size 34 k0 _ 1 24 Tryd.underlying67 hk0 kz0 kz1 kz2 rfl (by decide) _ _ _ rfl hm1 ⟨w1.heap.size, 0, none⟩ 1 1 [.slice ad1 row.length cp1] rfl rfl (newR _ _ rfl) (by simp [Value.oneCell']) ?s1 ?s2 ?s3 ?_; rotate_left 3; intro v2 w2 hm2 hgb2 _ hob2; have hB2 := ownT_grown hm1 (hB1.alloc hBs1 _) (by simp; omega) hgb2; have hBs2 := hB2.size; have c03 := HC.out w2 hB2; obtain ⟨hf2, HA3, HA4, HK3, HK4⟩ := grow_two hm1 HTL2.out.symm hf1 HA1.out HA2.out HK1a.out HK2a.out h91a hgb2 hob2; have HK3h := hide HK3; have HK4h := hide HK4; have HA3h := hide HA3; have HA4h := hide HA4; clear HK3 HK4 HA3 HA4 hob2)
        | (at_builtin; refine append_spread rfl _ _ rfl w.heap.size row hrl sv rfl rfl (HSR.out w2 hB2) hBs2 ?_; intro v3 w3 h93 hgb3; have hb3 := gb_none_below hgb3; have hB3 := hB2.trans (hb3.mono hBs2); have hBs3 := hB3.size; obtain ⟨ad3, cp3, e3⟩ := own_flat h93; subst e3; have hm3 := (ownT_below hm2 hb3).alloc (.cells #[.slice ad3 row.length cp3] 34); have hf3 := (ownT_below hf2 hb3).alloc (.cells #[.slice ad3 row.length cp3] 34); have h93a := h93.alloc (.cells #[.slice ad3 row.length cp3] 34); have HK3a := hide (kp_below (kp_below HK3h.out hb3) ((Below.refl w3.heap.size w3).alloc (Nat.le_refl _) (.cells #[.slice ad3 row.length cp3] 34))); have HK4a := hide (kp_below (kp_below HK4h.out hb3) ((Below.refl w3.heap.size w3).alloc (Nat.le_refl _) (.cells #[.slice ad3 row.length cp3] 34))))
        | (at_builtin; refine wpList_append_own_at _ rfl _ _ 67 rfl w.heap.size 34 k0 _ 1 24 Tryd.underlying67 hk0 kz0 kz1 kz2 rfl (by decide) _ _ _ rfl hf3 ⟨w3.heap.size, 0, none⟩ 1 1 [.slice ad3 row.length cp3] rfl rfl (newR _ _ rfl) (by simp [Value.oneCell']) ?t1 ?t2 ?t3 ?_; rotate_left 3; intro v4 w4 hf4 hgb4 _ hob4))
      all_goals (try (case s1 => unfold maxLen; omega))
      all_goals (try (case s2 => omega))
      all_goals (try (case s3 => (try simp); omega))
      all_goals (try (case t1 => unfold maxLen; omega))
      all_goals (try (case t2 => omega))
      all_goals (try (case t3 => (try simp); omega))
      obtain ⟨hm4, HA5, HA6, HK5, HK6⟩ := grow_two hf3 HTL2.out.symm hm3 HA4h.out HA3h.out HK4a.out HK3a.out h93a hgb4 hob4
      have hB4 := ownT_grown hf3 (hB3.alloc hBs3 _) (by simp; omega) hgb4
      exact ⟨⟨i + 1, _, _, by go_num, by omega, hB4, hm4, hf4, HA6, HA5, by show Kp _ _ _ _; rw [HTS2.out]; exact HK6, by show Kp _ _ _ _; rw [HTS2.out]; exact HK5⟩, by simp only [intOf]; omega⟩
    · have hge : ¬ (i : Int) < (N : Int) := by omega
      have hiN : i = rows.length := by rw [HN.out]; omega
      rw [hiN] at hm hf HK1 HK2
      rw [HT0.out] at HK1 HK2
      generalize wl = wc at *
      have HMI := hide (mi_of (by have := hm.1; omega) HK1.out HRL.out HRZ.out)
      obtain ⟨adM, cpM, rfl, hMs⟩ := kp_rs hm HK1.out
      obtain ⟨adF, cpF, rfl, hFs⟩ := kp_rs hf HK2.out
      have HMS := hide hMs
      have HFS := hide hFs
      rw [HN.out] at hm ⊢
      clear hMs hFs hf HK1 HK2 HA1 HA2 HT0 HTS HTL hiN hlt hi HVV
      go_wp2_with fail
      go_loopw [9, 10, 14] (fun vl vw kv wr => ∃ (k : Nat) (l : List W3), kv = .int .i64 (k : Int) ∧ k ≤ M ∧ Hid (l.length = k) ∧ Hid (∀ x ∈ l, x.1.size ≤ 1048576) ∧ Below wc.heap.size wc wr ∧ wr.ownsRow wc.heap.size 40 3 vl k (cellsW l) ∧ wr.ownsRow wc.heap.size 41 3 vw k (cellsW l)) (fun _ _ kv _ => M - (intOf kv).toNat)
      case atStart => exact ⟨0, [], rfl, by omega, rfl, fun x hx => by simp at hx, Below.refl _ _, World.ownsRow_nil _ _ _ _, World.ownsRow_nil _ _ _ _⟩
      case round =>
        obtain ⟨k, l, rfl, hk, HL1, HL2, hBc, hl, hw⟩ := hrel
        have hBcs := hBc.size
        by_cases hlt : k < M
        · have hkl : k < vs.length := by rw [HM.out]; exact hlt
          have hltI : (k : Int) < (M : Int) := by omega
          obtain ⟨g, o, rfl, hg, c00⟩ := HUU.out k hkl
          have HC : Hid (∀ W, Below wc.heap.size wc W → W.cell? ⟨g, o + k, none⟩ = some (.string vs[k])) := fun W hb => (hb.cell (p := ⟨g, o + k, none⟩) (show g < wc.heap.size by omega)).trans ((hB.cell (p := ⟨g, o + k, none⟩) hg).trans c00)
          have hcz := HVZ.out _ (List.getElem_mem hkl)
          generalize vs[k] = c at *
          have c0 := HC.out wr hBc
          have HCZ := hide hcz
          clear c00 hcz HTB HRT HJN HRJ HRL HRZ HMS HFS HMI HUU
          go_wp2_with (first
            | (at_builtin; refine wpList_append_own _ rfl _ _ 37 rfl wc.heap.size 40 p0 _ 3 32 Tryd.underlying37 hp0 pz0 pz1 pz2 rfl (by decide) _ _ _ rfl (hl.alloc _) ⟨wr.heap.size, 0, none⟩ 1 1 (cells3 (c, ((k : Int) % 2 == 0), 0)) rfl rfl (new3 wr (c, ((k : Int) % 2 == 0), 0) 40) (one3 _) ?a1 ?a2 ?a3 ?_; rotate_left 3; intro v1 w1 hl1 hgb1 _; have hw1 := row_grow (hl.alloc _) hgb1 (hw.alloc _) (by decide); have hBc1 := own3_grown (hl.alloc _) (hBc.alloc hBcs _) (by simp; omega) hgb1; have hBcs1 := hBc1.size; have c02 := HC.out w1 hBc1)
            | (at_builtin; refine wpList_append_own _ rfl _ _ 38 rfl wc.heap.size 41 q0 _ 3 32 Tryd.underlying38 hq0 qz0 qz1 qz2 rfl (by decide) _ _ _ rfl (hw1.alloc _) ⟨w1.heap.size, 0, none⟩ 1 1 (cells3 (c, ((k : Int) % 2 == 0), 0)) rfl rfl (new3 w1 (c, ((k : Int) % 2 == 0), 0) 41) (one3 _) ?b1 ?b2 ?b3 ?_; rotate_left 3; intro v2 w2 hw2 hgb2 _))
          all_goals (try (case a1 => unfold maxLen; omega))
          all_goals (try (case a2 => omega))
          all_goals (try (case a3 => (try simp); omega))
          all_goals (try (case b1 => unfold maxLen; omega))
          all_goals (try (case b2 => omega))
          all_goals (try (case b3 => (try simp); omega))
          have hl2 := row_grow (hw1.alloc _) hgb2 (hl1.alloc _) (by decide)
          have hBc2 := own3_grown (hw1.alloc _) (hBc1.alloc hBcs1 _) (by simp; omega) hgb2
          exact ⟨⟨k + 1, l ++ [(c, ((k : Int) % 2 == 0), 0)], by go_num, by omega, by show _ = _; rw [List.length_append, HL1.out]; rfl, fun x hx => by
            rcases List.mem_append.1 hx with h | h
            · exact HL2.out x h
            · rw [List.mem_singleton] at h; rw [h]; exact HCZ.out, hBc2, by rw [cellsW_snoc]; exact hl2, by rw [cellsW_snoc]; exact hw2⟩, by simp only [intOf]; omega⟩
        · have hge : ¬ (k : Int) < (M : Int) := by omega
          generalize wr = wd at *
          have hlk := HL1.out
          subst hlk
          obtain ⟨adl, cpl, rfl, hWl, _⟩ := ws_of hl
          obtain ⟨adw, cpw, rfl, hWw, _⟩ := ws_of hw
          obtain ⟨L, P, E, hW1⟩ : ∃ L P E, tableG rows = (L, P, E) := ⟨_, _, _, rfl⟩
          have hl1 := table_len rows
          rw [hW1] at hl1
          simp only at hl1
          obtain ⟨ja, jp, je, hj⟩ : ∃ a p e, joinG l = (a, p, e) := ⟨_, _, _, rfl⟩
          have C1 := HRT.out rows HRZ.out wd adF cpF (HFS.out.below hBc (Nat.le_refl _))
          have C3 := fun (W : World) (hb : Below wc.heap.size wc W) => HTB.out rows HRZ.out W (hB.trans (hb.mono hB.size)) adM cpM (HMS.out.below hb (Nat.le_refl _))
          have C2 := fun (W : World) (hb : Below wd.heap.size wd W) => HRJ.out l HL2.out W adw cpw (hWw.below hb (Nat.le_refl _))
          have C4 := fun (W : World) (hb : Below wd.heap.size wd W) => HJN.out l HL2.out W ((hB.trans (hBc.mono hB.size)).trans (hb.mono (Nat.le_trans hB.size hBc.size))) adl cpl (hWl.below hb (Nat.le_refl _))
          rw [hW1, HN.out] at C1
          rw [hW1, HN.out] at C3
          rw [hj] at C2 C4
          have C2' : ∀ (W : World) (hb : Below wd.heap.size wd W), Calls Tryd.prog 29 #[.slice adw l.length cpw] W fun e' w' => e' = .returned (.tuple #[.string ⟨ja.toArray⟩, .int .i64 jp, .int .i64 je]) ∧ Below W.heap.size W w' := C2
          have C4' : ∀ (W : World) (hb : Below wd.heap.size wd W), Calls Tryd.prog 28 #[.slice adl l.length cpl] W fun e' w' => e' = .returned (.tuple #[.string ⟨ja.toArray⟩, .int .i64 jp, .int .i64 je]) ∧ Below W.heap.size W w' := C4
          have b0 := str_beq ja
          have HC2 := hide C2'
          have HC3 := hide C3
          have HC4 := hide C4'
          have hBcs2 := hBc.size
          have hlM : (l.length : Int) ≤ 1048576 := by omega
          clear C2 C3 C4 C2' C4' hWl hWw hj hW1
          go_wp2_with fail
          refine C1.mono ?_; rintro e w1 ⟨vW, rfl, hrW, hb1⟩
          obtain ⟨adW, cpW, rfl, rW1⟩ := rv_of hrW
          clear C1 hrW
          have D2 := HC2.out w1 hb1
          go_wp2_with fail
          refine D2.mono ?_; rintro e w2 ⟨rfl, hb2⟩
          have hb12 := hb1.trans (hb2.mono hb1.size)
          have D3 := HC3.out w2 (hBc.trans (hb12.mono hBc.size))
          clear D2
          go_wp2_with fail
          refine D3.mono ?_; rintro e w3 ⟨vA, rfl, hrA, hb3⟩
          obtain ⟨adA, cpA, rfl, rA3⟩ := rv_of hrA
          have hb13 := hb12.trans (hb3.mono hb12.size)
          have D4 := HC4.out w3 hb13
          clear D3 hrA
          go_wp2_with fail
          refine D4.mono ?_; rintro e w4 ⟨rfl, hb4⟩
          have hb14 := hb13.trans (hb4.mono hb13.size)
          have rA4 := rA3.below hb4
          have rW4 := ((rW1.below hb2).below hb3).below hb4
          clear D4
          go_wp2_with fail
          refine (same_v hl1 cpA cpW rA4 rW4).mono ?_; rintro e w5 ⟨rfl, hb5⟩
          have hb15 := hb14.trans (hb5.mono hb14.size)
          have rA5 := rA4.below hb5
          have rW5 := rW4.below hb5
          have hm5 := ownT_below (ownT_below hm hBc) hb15
          have hl5 := Wo_own hl hb15
          have hw5 := Wo_own hw hb15
          have HMI5 : Hid (Mi w5 w.heap.size wc.heap.size cs) := (HMI.out.below hBc).below (hb15.mono hBc.size)
          have hB5 := (hB.trans (hBc.mono hB.size)).trans (hb15.mono (Nat.le_trans hB.size hBc.size))
          have z1 := hb1.size
          have z2 := hb2.size
          have z3 := hb3.size
          have z15 := hb15.size
          have z5 := hB5.size
          have HGL : Hid (∀ g, adl = some ⟨g, 0, none⟩ → g < wd.heap.size) := fun g e => by
            rcases hl.2 with ⟨h0, _⟩ | ⟨g', cp', cur', h0, _, hg', _⟩
            · rw [e] at h0; cases h0
            · rw [e] at h0; cases h0; exact (Array.getElem?_eq_some_iff.1 hg').1
          have HGW : Hid (∀ g, adw = some ⟨g, 0, none⟩ → g < wd.heap.size) := fun g e => by
            rcases hw.2 with ⟨h0, _⟩ | ⟨g', cp', cur', h0, _, hg', _⟩
            · rw [e] at h0; cases h0
            · rw [e] at h0; cases h0; exact (Array.getElem?_eq_some_iff.1 hg').1
          obtain ⟨n, hn⟩ : ∃ n, l.length = n := ⟨_, rfl⟩
          have HNL := hide hn
          rw [hn] at hl5 hw5 hlM
          have HSX : Hid (Sx w w5 wc.heap.size w5.heap.size (.slice adM N cpM) N cs adA adW L w2.heap.size w3.heap.size wd.heap.size w1.heap.size adl adw n cpl cpw l) := ⟨hB5, Nat.le_refl _, hm5, HMI5.out, rA5, rW5, hl5, hw5⟩
          have z12 : wd.heap.size ≤ w2.heap.size := by omega
          have z0c := hB.size
          clear hb1 hb2 hb3 hb4 hb5 hb12 hb13 hb14 hb15 rA3 rA4 rW1 rW4 HC2 HC3 HC4 HMI HMS HFS hl hw HUU HVZ HRL hm5 HMI5 rA5 rW5 hl5 hw5 hm hBc
          go_wp2_with fail
          try rw [hn]
          clear hn
          have hn2 : n ≤ 1048576 := by omega
          go_loopw [28] (fun kv wr => ∃ (i : Nat), kv = .int .i64 (i : Int) ∧ i ≤ N ∧ Hid (Sx w wr wc.heap.size w5.heap.size (.slice adM N cpM) N cs adA adW L w2.heap.size w3.heap.size wd.heap.size w1.heap.size adl adw n cpl cpw l)) (fun kv _ => N - (intOf kv).toNat)
          case atStart => exact ⟨0, rfl, by omega, HSX⟩
          case round =>
            clear HSX
            obtain ⟨i, rfl, hi, HSX⟩ := hrel
            by_cases hlt : i < N
            · have hltI : (i : Int) < (N : Int) := by omega
              obtain ⟨adr, len, cp, hcs, hlen, _⟩ := HSX.out.mi i (by have := HSX.out.row.1; omega)
              have HCS := hide hcs
              have hlenI : (len : Int) ≤ 1048576 := by omega
              obtain ⟨gM, rfl, _⟩ := row34_cell HSX.out.row hlt
              clear hcs HTB HRT HJN HRJ HGL HGW
              go_wp2_with fail
              go_loopw [29] (fun kv wr => ∃ (j : Nat), kv = .int .i64 (j : Int) ∧ j ≤ len ∧ Hid (Sx w wr wc.heap.size w5.heap.size (.slice (some ⟨gM, 0, none⟩) N cpM) N cs adA adW L w2.heap.size w3.heap.size wd.heap.size w1.heap.size adl adw n cpl cpw l)) (fun kv _ => len - (intOf kv).toNat)
              case atStart => exact ⟨0, rfl, by omega, HSX⟩
              case round =>
                clear HSX
                obtain ⟨j, rfl, hj, HSX⟩ := hrel
                obtain ⟨gM2, e2, c00⟩ := row34_cell HSX.out.row hlt
                cases e2
                have c0 := c00.trans HCS.out
                clear c00
                by_cases hltj : j < len
                · have hjI : (j : Int) < (len : Int) := by omega
                  obtain ⟨adr2, len2, cp2, hcs2, _, hel⟩ := HSX.out.mi i (by have := HSX.out.row.1; omega)
                  rw [HCS.out] at hcs2
                  cases hcs2
                  obtain ⟨g, s, rfl, hg0, hg1, hcur, hcell, _⟩ := hel j hltj
                  obtain ⟨cur, hcur2⟩ := hcur
                  have f1 := frozen_of_row wr g j cur 9 hcur2
                  have HS2 := hide (HSX.out.store (g := g) (j := j) (o := ot) HOT.out ⟨cur, hcur2⟩ hg0 (by omega) (by omega))
                  clear hel hcur2 HSX
                  go_wp2
                  exact ⟨⟨j + 1, by go_num, by omega, HS2⟩, by simp only [intOf]; omega⟩
                · have hge3 : ¬ (j : Int) < (len : Int) := by omega
                  go_wp2
                  exact ⟨⟨i + 1, by go_num, by omega, HSX⟩, by simp only [intOf]; omega⟩
            · have hge2 : ¬ (i : Int) < (N : Int) := by omega
              clear hlt hi
              go_wp2_with fail
              go_loopw [30] (fun kv wr => ∃ (k : Nat) (l : List W3), kv = .int .i64 (k : Int) ∧ k ≤ n ∧ Hid (l.length = n) ∧ Hid (∀ x ∈ l, x.1.size ≤ 1048576) ∧ Hid (Sx w wr wc.heap.size w5.heap.size (.slice adM N cpM) N cs adA adW L w2.heap.size w3.heap.size wd.heap.size w1.heap.size adl adw n cpl cpw l)) (fun kv _ => n - (intOf kv).toNat)
              case atStart => exact ⟨0, l, rfl, by omega, HNL, HL2, HSX⟩
              case round =>
                clear HSX HL2 HNL
                obtain ⟨k, l, rfl, hk, HL1, HL2, HSX⟩ := hrel
                by_cases hlt : k < n
                · have hltI : (k : Int) < (n : Int) := by omega
                  obtain ⟨g1, cur1, rfl, hgb1, hg1, ⟨u1, c1⟩, f1⟩ := row_block HSX.out.ol HL1.out hlt
                  obtain ⟨g2, cur2, rfl, hgb2, hg2, ⟨u2, c2⟩, f2⟩ := row_block HSX.out.ow HL1.out hlt
                  have hgl1 := HGL.out g1 rfl
                  have hgl2 := HGW.out g2 rfl
                  obtain ⟨a1, a2, a3, a4, a5, a6, a7, a8⟩ := HSX.out.word40 HL1.out hlt HOT.out rfl hg1 (by omega) (by omega) (by omega)
                  have hne : g2 ≠ g1 := fun e => by subst e; rw [hg1] at hg2; cases hg2
                  have hg2' := (Below.heap_setCell wr ⟨g1, k * 3, none⟩ (.string ot) g2 (fun e => hne e)).trans hg2
                  have c2' : (wr.setCell ⟨g1, k * 3, none⟩ (.string ot)).cell? ⟨g2, k * 3, none⟩ = some u2 := (World.cell?_of_block (a := ⟨g2, k * 3, none⟩) (Below.heap_setCell wr ⟨g1, k * 3, none⟩ (.string ot) g2 (fun e => hne e))).trans c2
                  have f2' := frozen_of_row (wr.setCell ⟨g1, k * 3, none⟩ (.string ot)) g2 (k * 3) cur2 41 hg2'
                  have HS2 := hide (word41 (x := (ot, false, 0)) (l' := l) HL1.out hlt HOT.out rfl hg2' (by omega) (by omega) (by omega) a1 a2 a3 a4 a5 a6 a7 a8)
                  have HL3 : Hid ((l.set k (ot, (l.getD k (⟨#[]⟩, false, 0)).2)).length = n) := by show _ = _; rw [List.length_set]; exact HL1.out
                  have HL4 := hide (small_set HOT.out HL2.out k (l.getD k (⟨#[]⟩, false, 0)).2)
                  generalize l.set k (ot, (l.getD k (⟨#[]⟩, false, 0)).2) = l2 at *
                  clear a1 a2 a3 a4 a5 a6 a7 a8 hg1 hg2 hg2' HSX HTB HRT HJN HRJ HGL HGW c2 f2 hne
                  go_wp2
                  exact ⟨⟨k + 1, l2, by go_num, by omega, HL3, HL4, HS2⟩, by simp only [intOf]; omega⟩
                · have hge3 : ¬ (k : Int) < (n : Int) := by omega
                  have hs := HSX.out
                  obtain ⟨rows2, adM2, cpM2, hrl2, e2, hRs2, hz22⟩ := mi_rs hs.row hs.mi (by have := hs.big; omega)
                  rw [hrl2] at e2
                  cases e2
                  obtain ⟨adl2, cpl2, e3, hWl, _⟩ := ws_of (by rw [HL1.out]; exact hs.ol)
                  rw [HL1.out] at e3
                  cases e3
                  obtain ⟨adw2, cpw2, e4, hWw, _⟩ := ws_of (by rw [HL1.out]; exact hs.ow)
                  rw [HL1.out] at e4
                  cases e4
                  have hB6 := hs.bel
                  have ra := hs.ra
                  have rw6 := hs.rw
                  obtain ⟨L2, P2, E2, hW2⟩ : ∃ L P E, tableG rows2 = (L, P, E) := ⟨_, _, _, rfl⟩
                  have hl2 := table_len rows2
                  rw [hW2] at hl2
                  simp only at hl2
                  obtain ⟨jb, jp2, je2, hj2⟩ : ∃ a p e, joinG l = (a, p, e) := ⟨_, _, _, rfl⟩
                  have C1 := HRT.out rows2 hz22 wr adM cpM hRs2
                  have C3 := fun (W : World) (hb : Below wr.heap.size wr W) => HTB.out rows2 hz22 W (hB6.trans (hb.mono hB6.size)) adM cpM (hRs2.below hb (Nat.le_refl _))
                  have C2 := fun (W : World) (hb : Below wr.heap.size wr W) => HRJ.out l HL2.out W adw cpw (hWw.below hb (Nat.le_refl _))
                  have C4 := fun (W : World) (hb : Below wr.heap.size wr W) => HJN.out l HL2.out W (hB6.trans (hb.mono hB6.size)) adl cpl (hWl.below hb (Nat.le_refl _))
                  rw [hW2, hrl2] at C1
                  rw [hW2, hrl2] at C3
                  rw [hj2, HL1.out] at C2 C4
                  have C2' : ∀ (W : World) (hb : Below wr.heap.size wr W), Calls Tryd.prog 29 #[.slice adw n cpw] W fun e' w' => e' = .returned (.tuple #[.string ⟨jb.toArray⟩, .int .i64 jp2, .int .i64 je2]) ∧ Below W.heap.size W w' := C2
                  have C4' : ∀ (W : World) (hb : Below wr.heap.size wr W), Calls Tryd.prog 28 #[.slice adl n cpl] W fun e' w' => e' = .returned (.tuple #[.string ⟨jb.toArray⟩, .int .i64 jp2, .int .i64 je2]) ∧ Below W.heap.size W w' := C4
                  have b2 := str_beq jb
                  have HC2 := hide C2'
                  have HC3 := hide C3
                  have HC4 := hide C4'
                  clear C2 C3 C4 C2' C4' hWl hWw hj2 hW2 hs HSX hRs2 hz22 hrl2 HTB HRT HJN HRJ HGL HGW HL1 HL2
                  go_wp2_with fail
                  refine C1.mono ?_; rintro e w6 ⟨vX, rfl, hrX, hb6⟩
                  obtain ⟨adX, cpX, rfl, rX6⟩ := rv_of hrX
                  clear C1 hrX
                  have D2 := HC2.out w6 hb6
                  go_wp2_with fail
                  refine D2.mono ?_; rintro e w7 ⟨rfl, hb7⟩
                  have hb67 := hb6.trans (hb7.mono hb6.size)
                  have D3 := HC3.out w7 hb67
                  clear D2
                  go_wp2_with fail
                  refine D3.mono ?_; rintro e w8 ⟨vY, rfl, hrY, hb8⟩
                  obtain ⟨adY, cpY, rfl, rY8⟩ := rv_of hrY
                  have hb68 := hb67.trans (hb8.mono hb67.size)
                  have D4 := HC4.out w8 hb68
                  clear D3 hrY
                  go_wp2_with fail
                  refine D4.mono ?_; rintro e w9 ⟨rfl, hb9⟩
                  have hb69 := hb68.trans (hb9.mono hb68.size)
                  have rA9 := ra.below hb69
                  have rW9 := rw6.below hb69
                  have rY9 := rY8.below hb9
                  have rX9 := ((rX6.below hb7).below hb8).below hb9
                  clear D4 HC2 HC3 HC4
                  go_wp2_with fail
                  refine (same_v hl1 cpA cpW rA9 rW9).mono ?_; rintro e w10 ⟨rfl, hb10⟩
                  go_wp2_with fail
                  refine (same_v hl2 cpY cpX (rY9.below hb10) (rX9.below hb10)).mono ?_; rintro e w11 ⟨rfl, hb11⟩
                  have hbF := (hb69.trans (hb10.mono hb69.size)).trans (hb11.mono (Nat.le_trans hb69.size hb10.size))
                  have hBF := hB6.trans (hbF.mono hB6.size)
                  go_wp2
                  go_ret
                  exact ⟨rfl, hBF⟩
end Go.Proofs.YtckjededijgjgaaDoor.Ag
namespace Go.Proofs.YtckjededijgjgaaDoor.Wd
open Go.RowKit
open Go.Proofs.YtckjededijgjgaaDoor.Pc (P4 pieces)
open Go.Proofs.YtckjededijgjgaaDoor.Rp (cellsR cellsR4 refPieces_any)
open Go.Proofs.YtckjededijgjgaaDoor.Rn (row_at)
open Go.Proofs.YtckjededijgjgaaDoor.Enc (hidB hidden_any hide kindF)
set_option linter.unusedVariables false

theorem wF_col (r at_ sz : Int) : wF (r, at_, sz, false) = colF r := by
  rw [col_is]
  unfold wF
  rw [if_neg (by simp)]

set_option maxHeartbeats 400000 in
/-- the document's columns -/
theorem columns_any (r at_ sz : Int) (br : Bool) (w : World) :
    Calls Tryd.prog 83 #[.agg #[.int .i64 r, .int .i64 at_, .int .i64 sz, .bool br]] w fun e w' => e = .returned (.int .i64 (wF (r, at_, sz, br))) ∧ Below w.heap.size w w' := by
  have hB := (Below.refl w.heap.size w).alloc (Nat.le_refl _) (.cells #[.int .i64 r, .int .i64 at_, .int .i64 sz, .bool br] 97)
  cases br
  · rw [wF_col]
    have H := fun w => hidden_any r w
    have M := fun w => mark_any r w
    have B := fun w => broad_any r w
    have hcol : colF r = if hidB r = true ∨ markP r then 0 else if broadP r then 2 else 1 := rfl
    rw [hcol]
    by_cases h1 : hidB r = true
    · rw [if_pos (.inl h1)]
      rw [h1] at H
      generalize decide (markP r) = m at *
      generalize decide (broadP r) = b at *
      clear hcol
      go_enter Tryd.func83, Tryd.ntmps83
      go_wp2_with fail
      refine (H _).mono ?_; rintro e w' ⟨rfl, rfl⟩
      go_wp2_with fail
      refine (M _).mono ?_; rintro e w' ⟨rfl, rfl⟩
      go_wp2_with fail
      refine (B _).mono ?_; rintro e w' ⟨rfl, rfl⟩
      go_wp2
      go_ret
      exact ⟨rfl, hB⟩
    have h1' : hidB r = false := by simpa using h1
    rw [h1'] at H
    by_cases h2 : markP r
    · rw [if_pos (.inr h2)]
      rw [decide_eq_true h2] at M
      generalize decide (broadP r) = b at *
      clear hcol
      go_enter Tryd.func83, Tryd.ntmps83
      go_wp2_with fail
      refine (H _).mono ?_; rintro e w' ⟨rfl, rfl⟩
      go_wp2_with fail
      refine (M _).mono ?_; rintro e w' ⟨rfl, rfl⟩
      go_wp2_with fail
      refine (B _).mono ?_; rintro e w' ⟨rfl, rfl⟩
      go_wp2
      go_ret
      exact ⟨rfl, hB⟩
    rw [if_neg (fun h => h.elim h1 h2)]
    rw [decide_eq_false h2] at M
    by_cases h3 : broadP r
    · rw [if_pos h3]
      rw [decide_eq_true h3] at B
      clear hcol
      go_enter Tryd.func83, Tryd.ntmps83
      go_wp2_with fail
      refine (H _).mono ?_; rintro e w' ⟨rfl, rfl⟩
      go_wp2_with fail
      refine (M _).mono ?_; rintro e w' ⟨rfl, rfl⟩
      go_wp2_with fail
      refine (B _).mono ?_; rintro e w' ⟨rfl, rfl⟩
      go_wp2
      go_ret
      exact ⟨rfl, hB⟩
    · rw [if_neg h3]
      rw [decide_eq_false h3] at B
      clear hcol
      go_enter Tryd.func83, Tryd.ntmps83
      go_wp2_with fail
      refine (H _).mono ?_; rintro e w' ⟨rfl, rfl⟩
      go_wp2_with fail
      refine (M _).mono ?_; rintro e w' ⟨rfl, rfl⟩
      go_wp2_with fail
      refine (B _).mono ?_; rintro e w' ⟨rfl, rfl⟩
      go_wp2
      go_ret
      exact ⟨rfl, hB⟩
  · rw [show wF (r, at_, sz, true) = 1 from rfl]
    go_enter Tryd.func83, Tryd.ntmps83
    go_wp2
    go_ret
    exact ⟨rfl, hB⟩

theorem cols : Cols := columns_any
end Go.Proofs.YtckjededijgjgaaDoor.Wd
namespace Go.Proofs.YtckjededijgjgaaDoor.Hx
open Go.RowKit
set_option linter.unusedVariables false

theorem refDigits_bad (n : Int) (form : Int) (h : form < 0 ∨ (0 ≤ form ∧ form > 2)) (w : World) :
    Calls Tryd.prog 31 #[.int .u64 n, .int .i64 form] w fun e w' => e = .returned (.tuple #[.string ⟨#[]⟩, .int .i64 2]) ∧ w' = w := by
  rcases h with h | ⟨h, h'⟩
  all_goals
    go_enter Tryd.func31, Tryd.ntmps31
    go_wp2
    go_ret2
    exact ⟨rfl, rfl⟩

/-- what both answer -/
theorem both (n : Nat) (hn : n < 18446744073709551616) (form : Int) : ∃ (o : ByteArray) (e : Int),
    (∀ w, Tabs w → Calls Tryd.prog 30 #[.int .u64 (n : Int), .int .i64 form] w fun e' W' => e' = .returned (.tuple #[.string o, .int .i64 e]) ∧ Below w.heap.size w W') ∧
    (∀ w, Calls Tryd.prog 31 #[.int .u64 (n : Int), .int .i64 form] w fun e' W' => e' = .returned (.tuple #[.string o, .int .i64 e]) ∧ Below w.heap.size w W') := by
  by_cases h : form < 0 ∨ (0 ≤ form ∧ form > 2)
  · refine ⟨⟨#[]⟩, 2, fun w _ => (digits_bad _ form (by omega) w).mono ?_, fun w => (refDigits_bad _ form h w).mono ?_⟩
    · rintro e w' ⟨rfl, rfl⟩; exact ⟨rfl, Below.refl _ _⟩
    · rintro e w' ⟨rfl, rfl⟩; exact ⟨rfl, Below.refl _ _⟩
  · refine ⟨⟨(digF n form).toArray⟩, 0, fun w hT => digits_any n hn form (by omega) (by omega) w hT, fun w => ?_⟩
    have hc : form = 0 ∨ form = 1 ∨ form = 2 := by omega
    rcases hc with rfl | rfl | rfl
    · exact refDigits_0 n hn w
    · exact refDigits_1 n hn w
    · exact refDigits_2 n hn w

set_option maxHeartbeats 800000 in
theorem digits_walk (n : Nat) (hn : n < 18446744073709551616) (form : Int) (w : World) (hT : Tabs w) :
    Calls Tryd.prog 8 #[.int .u64 (n : Int), .int .i64 form] w fun e w' => e = .returned (.bool true) ∧ Below w.heap.size w w' := by
  obtain ⟨o, e0, P1, P2⟩ := both n hn form
  have C1 := P1 w hT
  have nm := fun n w => Rn.num_any n w
  have b2 : (e0 == e0) = true := by simp
  have b4 : (o.toList == o.toList) = true := by simp
  go_enter Tryd.func8, Tryd.ntmps8
  go_wp2_with fail
  refine C1.mono ?_; rintro e w1 ⟨rfl, hb1⟩
  go_wp2_with fail
  refine (P2 _).mono ?_; rintro e w2 ⟨rfl, hb2⟩
  go_wp2_with fail
  refine (nm _ _).mono ?_; rintro e w3 ⟨rfl, rfl⟩
  go_wp2
  go_ret
  exact ⟨rfl, hb1.trans (hb2.mono hb1.size)⟩

/-! the tables -/
def bru32 : List Int := [0, 1, 28, 2, 29, 14, 24, 3, 30, 22, 20, 15, 25, 17, 4, 8, 31, 27, 13, 23, 21, 19, 16, 7, 26, 12, 18, 6, 11, 5, 10, 9]
def bru64 : List Int := [0, 1, 56, 2, 57, 49, 28, 3, 61, 58, 42, 50, 38, 29, 17, 4, 62, 47, 59, 36, 45, 43, 51, 22, 53, 39, 33, 30, 24, 18, 12, 5, 63, 55, 48, 27, 60, 41, 37, 16, 46, 35, 44, 21, 52, 32, 23, 11, 54, 26, 40, 15, 34, 20, 31, 10, 25, 14, 19, 9, 13, 8, 7, 6]
theorem laid64 : (Rows.laid_math_bits_deBruijn64tab : DataW Unit) = Lib.tabData .u8 bru64 := by kernel_rfl
theorem laidPow : (Rows.laid_internal_strconv_uint64pow10 : DataW Unit) = Lib.tabData .u64 Lib.pow10Tab := by kernel_rfl
theorem g64 : Tryd.prog.globalNamed "math/bits.deBruijn64tab" = some 5 := by kernel_rfl
theorem tabs_of {W : World} {rest : List (String × DataW Unit)} (h : laidMet Tryd.prog (("math/bits.deBruijn32tab", Rows.laid_math_bits_deBruijn32tab) :: ("math/bits.deBruijn64tab", Rows.laid_math_bits_deBruijn64tab) :: ("internal/strconv.uint64pow10", Rows.laid_internal_strconv_uint64pow10) :: rest) W) : Tabs W := by
  have h2 := h.tail
  have h3 := h2.tail
  rw [laid64] at h2
  rw [laidPow] at h3
  have t2 : Lib.TabIs Tryd.prog W "math/bits.deBruijn64tab" .u8 bru64 := Lib.tabIs_of_head g64 (t := 171) (e := 5) (n := 64) (by kernel_rfl) Tryd.underlying171 Tryd.underlying5 (by kernel_rfl) (by kernel_rfl) h2
  have t3 : Lib.TabIs Tryd.prog W "internal/strconv.uint64pow10" .u64 Lib.pow10Tab := Lib.tabIs_of_head (g := 2) (by kernel_rfl) (t := 165) (e := 45) (n := 20) (by kernel_rfl) Tryd.underlying165 Tryd.underlying45 (by kernel_rfl) (by kernel_rfl) h3
  have hc : W.cell? ⟨5, 15, none⟩ = some (.int .u8 4) := t2.cell g64 15 (by decide)
  exact ⟨t3, hc, World.block_lt_of_cell? W _ hc⟩
end Go.Proofs.YtckjededijgjgaaDoor.Hx
namespace Go.Proofs.YtckjededijgjgaaDoor.Tab
open Go.Deep

theorem addP (R off j : Nat) : (⟨R, off, none⟩ : Addr).add j = ⟨R, off + j, none⟩ := by unfold Addr.add; split <;> simp_all

/-- rows of three integers, as a row lists a slice of structs -/
def rowData (k0 k1 k2 : IntKind) (rows : List (Int × Int × Int)) : DataW Unit := .slice (rows.map fun x => .agg [.lit (.int k0 x.1), .lit (.int k1 x.2.1), .lit (.int k2 x.2.2)]) []

theorem three_cells {P : Program} {W : World} {fuel : Nat} {e : TypeId} {f0 f1 f2 : Field} {k0 k1 k2 : IntKind} {cs : List Value} {y : DataW Unit × List MemPlace} {x : Int × Int × Int}
    (he : P.underlying e = some (.struct #[f0, f1, f2])) (ce : P.cellsOf e = 3) (o0 : f0.offset = 0) (o1 : f1.offset = 1) (o2 : f2.offset = 2)
    (c0 : P.cellsOf f0.type = 1) (c1 : P.cellsOf f1.type = 1) (c2 : P.cellsOf f2.type = 1)
    (u0 : P.underlying f0.type = some (.int k0)) (u1 : P.underlying f1.type = some (.int k1)) (u2 : P.underlying f2.type = some (.int k2))
    (h : DataW.trod (fun _ => ()) P W 0 (fun _ => true) false fuel e cs = some y) (hy : y.1 = .agg [.lit (.int k0 x.1), .lit (.int k1 x.2.1), .lit (.int k2 x.2.2)]) :
    cs = [.int k0 x.1, .int k1 x.2.1, .int k2 x.2.2] := by
  obtain ⟨y0, y1, y2, n, rfl, hl, h0, h1, h2⟩ := trod_struct3 he h
  rw [ce] at hl
  rw [o0, c0] at h0; rw [o1, c1] at h1; rw [o2, c2] at h2
  match cs, hl with
  | [v0, v1, v2], _ =>
    obtain ⟨z0, e0, rfl, _⟩ := DataW.trod_int u0 h0
    obtain ⟨z1, e1, rfl, _⟩ := DataW.trod_int u1 h1
    obtain ⟨z2, e2, rfl, _⟩ := DataW.trod_int u2 h2
    simp at e0 e1 e2
    subst e0 e1 e2
    simp only [DataW.agg.injEq, List.cons.injEq, DataW.lit.injEq, Lit.int.injEq, true_and, and_true] at hy
    obtain ⟨h0, h1, h2⟩ := hy
    rw [h0, h1, h2]

theorem rows_of {P : Program} {W : World} {fuel : Nat} {t e : TypeId} {f0 f1 f2 : Field} {k0 k1 k2 : IntKind} {cs : List Value} {p : List MemPlace} {rows : List (Int × Int × Int)} (hr : 0 < rows.length)
    (ht : P.underlying t = some (.slice e)) (he : P.underlying e = some (.struct #[f0, f1, f2])) (ce : P.cellsOf e = 3) (o0 : f0.offset = 0) (o1 : f1.offset = 1) (o2 : f2.offset = 2)
    (c0 : P.cellsOf f0.type = 1) (c1 : P.cellsOf f1.type = 1) (c2 : P.cellsOf f2.type = 1)
    (u0 : P.underlying f0.type = some (.int k0)) (u1 : P.underlying f1.type = some (.int k1)) (u2 : P.underlying f2.type = some (.int k2))
    (h : DataW.trod (fun _ => ()) P W 0 (fun _ => true) false fuel t cs = some (rowData k0 k1 k2 rows, p)) :
    ∃ R off cap, cs = [.slice (some ⟨R, off, none⟩) rows.length cap] ∧ R < W.heap.size ∧ ∀ i, i < rows.length →
      W.cell? ⟨R, off + i * 3, none⟩ = some (.int k0 (rows.getD i (0, 0, 0)).1) ∧ W.cell? ⟨R, off + i * 3 + 1, none⟩ = some (.int k1 (rows.getD i (0, 0, 0)).2.1) ∧ W.cell? ⟨R, off + i * 3 + 2, none⟩ = some (.int k2 (rows.getD i (0, 0, 0)).2.2) := by
  rcases open_slice ht h with ⟨_, hx⟩ | ⟨a, len, cap, m, n, D, Pl, rfl, _, hlc, _, hm, hx, hel⟩
  · simp [rowData] at hx
  simp only [Prod.mk.injEq, rowData, DataW.slice.injEq] at hx
  obtain ⟨⟨hx, _⟩, _⟩ := hx
  have hlen : rows.length = len := by simpa using congrArg List.length hx
  have hm' : len ≤ m := by rw [hm]; split <;> omega
  have row : ∀ i, i < len → W.cells? 0 (a.add (i * 3)) 3 = some [.int k0 (rows.getD i (0, 0, 0)).1, .int k1 (rows.getD i (0, 0, 0)).2.1, .int k2 (rows.getD i (0, 0, 0)).2.2] := by
    intro i hi
    obtain ⟨cs', h1, h2⟩ := hel i (by omega)
    rw [ce] at h1
    have hD : D i = .agg [.lit (.int k0 (rows.getD i (0, 0, 0)).1), .lit (.int k1 (rows.getD i (0, 0, 0)).2.1), .lit (.int k2 (rows.getD i (0, 0, 0)).2.2)] := by
      have := congrArg (·[i]?) hx
      simp [hi, hlen] at this
      rw [← this]
      simp [List.getD, List.getElem?_eq_getElem (show i < rows.length by omega)]
    have := three_cells he ce o0 o1 o2 c0 c1 c2 u0 u1 u2 h2 hD
    rw [h1, this]
  have h0 := row 0 (by omega)
  have hblk := World.cells?_block h0 (by omega)
  obtain ⟨R, off, spot⟩ := a
  have hspot : spot = none := by
    have := (World.cells?_some h0).2.2 0 (by omega)
    simp only [List.getElem?_cons_zero] at this
    have := World.cell?_spot this
    simpa [Addr.add] using this
  subst hspot
  refine ⟨R, off, cap, by rw [hlen], by simpa [Addr.add] using hblk, fun i hi => ?_⟩
  have hc := (World.cells?_some (row i (by omega))).2.2
  have q0 := hc 0 (by omega)
  have q1 := hc 1 (by omega)
  have q2 := hc 2 (by omega)
  refine ⟨?_, ?_, ?_⟩
  · rw [addP, addP] at q0; simpa using q0
  · rw [addP, addP] at q1; simpa using q1
  · rw [addP, addP] at q2; simpa using q2
end Go.Proofs.YtckjededijgjgaaDoor.Tab
namespace Go.Proofs.YtckjededijgjgaaDoor.Enc
open Go.ChangeShapes Go.WideShapes Go.ChangeAt Go.RowKit
set_option linter.unusedVariables false

theorem own : ownKnob Tryd.prog.godebug = none := by kernel_rfl
theorem laidOut : laidOutB Tryd.prog = true := by kernel_rfl
theorem gTab : Tryd.prog.globalNamed "shard/text.kindSpans" = some 0 := by kernel_rfl
theorem gTabType : (Tryd.prog.globals[0]?).map (·.type) = some 125 := by kernel_rfl
theorem cells127 : Tryd.prog.cellsOf 127 = 3 := by kernel_rfl
theorem cells21 : Tryd.prog.cellsOf 21 = 1 := by kernel_rfl
theorem cells76 : Tryd.prog.cellsOf 76 = 1 := by kernel_rfl
theorem laid_rows : (Rows.laid_shard_text_kindSpans : DataW Unit) = Tab.rowData .i32 .i32 .u8 spans := by kernel_rfl

/-- what the row's list gives: the table's cells -/
theorem table {W : World} {rest : List (String × DataW Unit)} (h : laidMet Tryd.prog (("shard/text.kindSpans", Rows.laid_shard_text_kindSpans) :: rest) W) : ∃ R off cap, Spans W R off cap := by
  obtain ⟨ps, ⟨g', t', cs, fuel, p, q, hg', ht', hvar, hd, _, _⟩, _⟩ := h
  obtain rfl := Option.some.inj (gTab.symm.trans hg')
  obtain rfl := Option.some.inj (gTabType.symm.trans ht')
  rw [laid_rows] at hd
  obtain ⟨R, off, cap, hcs, hR, hrow⟩ := Tab.rows_of (by rw [spans_len]; omega) Tryd.underlying125 Tryd.underlying127 cells127 rfl rfl rfl cells21 cells21 cells76 Tryd.underlying21 Tryd.underlying21 Tryd.underlying76 hd
  have hc := World.var?_cell gTab hvar 0
  have hc0 : cs[0]? = some (.slice (some ⟨R, off, none⟩) spans.length cap) := by rw [← Array.getElem?_toList, hcs]; rfl
  rw [hc0, spans_len] at hc
  rw [spans_len] at hrow
  exact ⟨R, off, cap, hc, World.block_lt_of_cell? W _ hc, hR, fun k hk => (hrow k hk).1, fun k hk => (hrow k hk).2.1, fun k hk => (hrow k hk).2.2⟩

set_option maxRecDepth 100000 in
theorem contract (H : Type) (enc : TypeId × Value → H) (W : World) (base : Nat) (args : Array Value) (ds gs : List (DataW H)) (before : List MemPlace)
    (hval : ∀ (j : Nat) t v, Tryd.f3.params[j]? = some t → args[j]? = some v → Value.okWide Tryd.prog W .any base t v)
    (hW : DataW.Whole enc Tryd.prog Tryd.f3.params.toList Rows.textEncodesSpec.vars false W args.toList ds gs before) (hL : laidMetH Tryd.prog Rows.textEncodesRow.laid W) :
    Calls Tryd.prog 3 args W fun e W' => ∃ v, e = .returned v ∧ Rows.textEncodesSpec.post enc Tryd.prog Tryd.f3 false true false false W args v W' := by
  have hW' := hW
  obtain ⟨p, q, hA0, hV, rfl, hfz, hnd⟩ := hW
  have hA : DataW.TrodAll enc Tryd.prog W 0 (fun _ => true) true Tryd.f3.params.toList args.toList ds p := hA0
  rw [Tryd.params3] at hA hval
  obtain ⟨v0, vs0, d0, ds0, p0, q0, hargs, rfl, rfl, h0, r0⟩ := trodAll_cons hA
  obtain ⟨rfl, rfl, rfl⟩ := trodAll_nil r0
  obtain rfl : args = #[v0] := by cases args; simp_all
  obtain ⟨rfl, rfl⟩ := trodVars_none hV
  obtain ⟨a0, rfl, rfl, rfl, w0⟩ := open_int Tryd.underlying21 (hval 0 21 v0 rfl rfl) h0
  clear hA0
  simp only [List.append_nil] at hW'
  have hx : -2147483648 ≤ a0 ∧ a0 ≤ 2147483647 := bounds_i32 w0
  obtain ⟨R, off, cap, hS⟩ := table (rest := []) hL
  refine (walk a0 W R off cap hS hx.1 hx.2).mono fun e W' ⟨he, bel⟩ => ?_
  subst he
  exact ⟨_, rfl, _, _, _, [], _, [], hW', trodAll_mk1 (shut_bool Tryd.underlying4 _), trodAll_cons_mk (shut_int Tryd.underlying21 w0) trodAll_mk0, rfl, bel.frame _, fun h => by cases h⟩

end Go.Proofs.YtckjededijgjgaaDoor.Enc
namespace Go.Proofs.YtckjededijgjgaaDoor.Agl
open Go.ChangeShapes Go.WideShapes Go.ChangeAt Go.RowKit
open Go.ChangeMaps (open_string shut_string)
open Go.Proofs.YtckjededijgjgaaDoor.Enc (table own)
open Go.Proofs.YtckjededijgjgaaDoor.Hx (tabs_of bru32 bru64)
set_option linter.unusedVariables false

theorem laidOut : laidOutB Tryd.prog = true := by kernel_rfl
theorem small_three {H : Type} {d d' : DataW H} {a : ByteArray} (hk : Rows.uptoSmall H ([d, d', .lit (.string a.data.toList)] ++ []) = true) : Rows.uptoBulk d ≤ 1048576 ∧ Rows.uptoBulk d' ≤ 1048576 ∧ a.size ≤ 1048576 := by
  have h := of_decide_eq_true hk
  simp only [List.append_nil, Rows.uptoBulkAll, Rows.uptoBulk, Array.length_toList, ByteArray.size_data] at h
  omega
section
open Go.Deep
variable {H : Type} {enc : TypeId × Value → H} {W : World}
/-- texts that lie in a cell, to be copied -/
theorem open_src {v0 : Value} {x : DataW H × List MemPlace} {fuel : Nat} (hf' : DataW.trod enc Tryd.prog W 0 (fun _ => true) true fuel 34 [v0] = some x) :
    ∃ (vs : List ByteArray), Ag.Src W v0 vs ∧ v0.cells = #[v0] ∧ Tb.tot vs ≤ Rows.uptoBulk x.1 := by
  rcases open_slice1 Tryd.underlying34 Tb.cellsOf9 hf' with ⟨hcs, hx⟩ | ⟨a, len, cap, m, n, V, D, Pl, hcs, _, hl, hm, hmm, hx, hel⟩
  · simp only [List.cons.injEq, and_true] at hcs
    rw [hcs]
    exact ⟨[], .inl ⟨rfl, rfl⟩, rfl, by simp [Tb.tot]⟩
  · simp only [List.cons.injEq, and_true] at hcs
    rw [hcs, hx]
    have hml : m = cap := by rw [hmm]; simp
    have each : ∀ i, i < len → ∃ s : ByteArray, W.cell? (a.add i) = some (.string s) ∧ Rows.uptoBulk (D i) = s.size + 1 := by
      intro i hi
      obtain ⟨hc, ht⟩ := hel i (by omega)
      obtain ⟨t, e0, h0, _⟩ := DataW.trod_string Tryd.underlying9 ht
      have e : V i = .string t := by simpa using e0
      rw [e] at hc
      simp only [Prod.mk.injEq] at h0
      refine ⟨t, hc, ?_⟩
      rw [h0.1]
      simp only [Rows.uptoBulk, Array.length_toList, ByteArray.size_data]
    haveI : Inhabited ByteArray := ⟨⟨#[]⟩⟩
    obtain ⟨f, hf2⟩ := choose_lt (α := ByteArray) each
    refine ⟨(List.range len).map f, .inr ⟨a, cap, by rw [List.length_map, List.length_range], fun j u hu => ?_⟩, rfl, ?_⟩
    · by_cases hj : j < len
      · simp [Tb.sCs, hj] at hu
        rw [← hu]; exact (hf2 j hj).1
      · rw [List.getElem?_eq_none (by simp [Tb.sCs]; omega)] at hu
        cases hu
    · simp only [Rows.uptoBulk]
      rw [Tb.bulk_tot D f (List.range len) (fun i hi => (hf2 i (by simpa using hi)).2)]
      omega
/-- rows that came in, to be copied -/
theorem open_rz {v0 : Value} {d0 : DataW H} {p0 : List MemPlace} (h : DataW.Trod enc Tryd.prog W 0 (fun _ => true) true 67 v0 d0 p0) (hone : ∃ a len cap, v0 = .slice a len cap) :
    ∃ (rows : List (List ByteArray)) (ad : Option Addr) (cap : Nat), v0 = .slice ad rows.length cap ∧ Ag.Rz W ad rows ∧ rows.length ≤ Rows.uptoBulk d0 ∧ ∀ r ∈ rows, Tb.tot r ≤ Rows.uptoBulk d0 := by
  obtain ⟨fuel, hf⟩ := h
  obtain ⟨a0, len0, cap0, rfl⟩ := hone
  have hf' : DataW.trod enc Tryd.prog W 0 (fun _ => true) true fuel 67 [.slice a0 len0 cap0] = some (d0, p0) := by simpa [Value.cells] using hf
  rcases open_slice1 Tryd.underlying67 Tb.cellsOf34 hf' with ⟨hcs, hx⟩ | ⟨a, len, cap, m, n, V, D, Pl, hcs, _, hl, hm, hmm, hx, hel⟩
  · simp only [List.cons.injEq, and_true] at hcs
    rw [hcs]
    exact ⟨[], _, _, rfl, fun k hk => by simp at hk, by simp, fun r hr => by simp at hr⟩
  · simp only [List.cons.injEq, and_true] at hcs
    rw [hcs]
    simp only [Prod.mk.injEq] at hx
    have hml : m = cap := by rw [hmm]; simp
    have each : ∀ i, i < len → ∃ r : List ByteArray, (∃ v, W.cell? (a.add i) = some v ∧ Ag.Src W v r ∧ v.cells = #[v]) ∧ Tb.tot r ≤ Rows.uptoBulk (D i) := by
      intro i hi
      obtain ⟨hc, ht⟩ := hel i (by omega)
      obtain ⟨r, hS, hv, hT⟩ := open_src ht
      exact ⟨r, ⟨_, hc, hS, hv⟩, hT⟩
    obtain ⟨f, hf2⟩ := choose_lt (α := List ByteArray) each
    have hlen : len ≤ Rows.uptoBulk d0 := by
      rw [hx.1]
      simp only [Rows.uptoBulk]
      have := Tb.bulk_len ((List.range len).map D)
      simp only [List.length_map, List.length_range] at this
      omega
    have htot : ∀ i, i < len → Tb.tot (f i) ≤ Rows.uptoBulk d0 := by
      intro i hi
      have h1 := (hf2 i hi).2
      have h2 := Tb.bulk_mem (l := (List.range len).map D) (d := D i) (List.mem_map.2 ⟨i, by simpa using hi, rfl⟩)
      rw [hx.1]
      simp only [Rows.uptoBulk]
      omega
    by_cases h0 : len = 0
    · subst h0
      exact ⟨[], _, _, rfl, fun k hk => by simp at hk, by simp, fun r hr => by simp at hr⟩
    · have hsp : a.spot = none := by
        obtain ⟨v, h1, _⟩ := (hf2 0 (by omega)).1
        have e : a.add 0 = a := by simp [Addr.add]
        rw [e] at h1
        unfold World.cell? at h1
        split at h1
        · split at h1
          · cases h1
          · rename_i h; simpa using h
        · cases h1
      obtain ⟨ab, ao, sp⟩ := a
      simp only at hsp
      subst hsp
      refine ⟨(List.range len).map f, _, _, by rw [List.length_map, List.length_range], fun i hi => ?_, by rw [List.length_map, List.length_range]; exact hlen, fun r hr => ?_⟩
      · have hi' : i < len := by simpa using hi
        obtain ⟨v, hc, hS, hv⟩ := (hf2 i hi').1
        rw [Pc.addP] at hc
        have e : ((List.range len).map f)[i] = f i := by simp
        rw [e]
        exact ⟨ab, ao, v, rfl, World.block_lt_of_cell? W _ hc, hc, hS, hv⟩
      · obtain ⟨i, hi, rfl⟩ := List.mem_map.1 hr
        exact htot i (by simpa using hi)
end

set_option maxRecDepth 100000 in
theorem contract (H : Type) (enc : TypeId × Value → H) (W : World) (base : Nat) (args : Array Value) (ds gs : List (DataW H)) (before : List MemPlace)
    (hval : ∀ (j : Nat) t v, Tryd.f18.params[j]? = some t → args[j]? = some v → Value.okWide Tryd.prog W .any base t v)
    (hW : DataW.Whole enc Tryd.prog Tryd.f18.params.toList Rows.textAgainSpec.vars false W args.toList ds gs before) (hk : Rows.uptoSmall H (ds ++ gs) = true) (hL : laidMetH Tryd.prog Rows.textAgainUptoRow.laid W) :
    Calls Tryd.prog 18 args W fun e W' => ∃ v, e = .returned v ∧ Rows.textAgainSpec.post enc Tryd.prog Tryd.f18 false true false false W args v W' := by
  have hW' := hW
  obtain ⟨p, q, hA0, hV, rfl, hfz, hnd⟩ := hW
  have hA : DataW.TrodAll enc Tryd.prog W 0 (fun _ => true) true Tryd.f18.params.toList args.toList ds p := hA0
  rw [Tryd.params18] at hA hval
  obtain ⟨v0, vs0, d0, ds0, p0, q0, hargs, rfl, rfl, h0, r0⟩ := trodAll_cons hA
  obtain ⟨v1, vs1, d1, ds1, p1, q1, rfl, rfl, rfl, h1, r1⟩ := trodAll_cons r0
  obtain ⟨v2, vs2, d2, ds2, p2, q2, rfl, rfl, rfl, h2, r2⟩ := trodAll_cons r1
  obtain ⟨rfl, rfl, rfl⟩ := trodAll_nil r2
  obtain rfl : args = #[v0, v1, v2] := by cases args; simp_all
  obtain ⟨rfl, rfl⟩ := trodVars_none hV
  have h0k := h0
  obtain ⟨rows, ad, cap0, rfl, hRz, hlen, htot⟩ := open_rz h0 (okWide_slice Tryd.underlying67 (hval 0 67 v0 rfl rfl))
  have h1k := h1
  obtain ⟨fu1, hf1⟩ := h1
  obtain ⟨b0, bl0, bc0, rfl⟩ := okWide_slice Tryd.underlying34 (hval 1 34 v1 rfl rfl)
  obtain ⟨vs, bd, capb, hv1, hSv, hvt⟩ := Tb.open_texts1 (show DataW.trod enc Tryd.prog W 0 (fun _ => true) true fu1 34 [.slice b0 bl0 bc0] = some (d1, p1) by simpa [Value.cells] using hf1)
  rw [hv1] at hW' h1k hval ⊢
  obtain ⟨a2, rfl, rfl, rfl, w2⟩ := open_string Tryd.underlying9 (hval 2 9 v2 rfl rfl) h2
  obtain ⟨hb1, hb2, hb3⟩ := small_three hk
  simp only at hvt
  clear hA0
  simp only [List.append_nil] at hW'
  have hL' : laidMet Tryd.prog (("math/bits.deBruijn32tab", Rows.laid_math_bits_deBruijn32tab) :: ("math/bits.deBruijn64tab", Rows.laid_math_bits_deBruijn64tab) :: ("internal/strconv.uint64pow10", Rows.laid_internal_strconv_uint64pow10) :: [("shard/text.kindSpans", Rows.laid_shard_text_kindSpans)]) W := hL
  have hT := tabs_of hL'
  obtain ⟨R, off, cap, hS⟩ := table (rest := []) hL'.tail.tail.tail
  have hlt : ∀ x ∈ p0, x.block < W.heap.size := fun x hx => hW'.lt x (by simp [hx])
  have hlt1 : ∀ x ∈ p1, x.block < W.heap.size := fun x hx => hW'.lt x (by simp [hx])
  refine (Ag.again_walk Wd.cols rows (Nat.le_trans hlen hb1) (fun r hr => Nat.le_trans (Tb.tot_len r) (Nat.le_trans (htot r hr) hb1)) (fun r hr c hc => by have h1 := Tb.tot_mem hc; have h2 := htot r hr; omega) vs (Nat.le_trans (Tb.tot_len vs) (Nat.le_trans hvt hb2)) (fun c hc => by have h1 := Tb.tot_mem hc; omega) a2 hb3 W ad cap0 hRz bd capb hSv hT R off cap hS).mono fun e W' ⟨he, bel⟩ => ?_
  subst he
  exact ⟨_, rfl, _, _, _, [], _, [], hW', trodAll_mk1 (shut_bool Tryd.underlying4 _), trodAll_cons_mk (Below.trod laidOut (by kernel_rfl) (of_decide_eq_true (by kernel_rfl)) h0k bel hlt) (trodAll_cons_mk (Below.trod laidOut (by kernel_rfl) (of_decide_eq_true (by kernel_rfl)) h1k bel hlt1) (trodAll_cons_mk (shut_string Tryd.underlying9 w2) trodAll_mk0)), rfl, bel.frame _, fun h => by cases h⟩

end Go.Proofs.YtckjededijgjgaaDoor.Agl
namespace Go.Proofs.YtckjededijgjgaaDoor.Agl
open Go.ChangeShapes Go.WideShapes Go.ChangeAt Go.RowKit
open Go.ChangeMaps (open_string shut_string)
open Go.Proofs.YtckjededijgjgaaDoor.Enc (table own)
open Go.Proofs.YtckjededijgjgaaDoor.Hx (tabs_of bru32 bru64)
set_option linter.unusedVariables false

def putL (k : IntKind) (zs : List Int) : Obj → Obj
  | .cells _ t frozen => .cells (zs.map fun z => Value.int k z).toArray t frozen
  | o => o
def putS (n : Nat) : Obj → Obj
  | .cells _ t frozen => .cells #[.slice (some ⟨n, 0, none⟩) 38 38] t frozen
  | o => o
def rowsV : Array Value := #[.int .i32 0, .int .i32 31, .int .u8 1, .int .i32 127, .int .i32 160, .int .u8 1, .int .i32 173, .int .i32 173, .int .u8 1, .int .i32 768, .int .i32 879, .int .u8 2, .int .i32 1155, .int .i32 1161, .int .u8 2, .int .i32 1425, .int .i32 1469, .int .u8 2, .int .i32 1564, .int .i32 1564, .int .u8 1, .int .i32 1611, .int .i32 1631, .int .u8 2, .int .i32 4352, .int .i32 4447, .int .u8 3, .int .i32 5760, .int .i32 5760, .int .u8 1, .int .i32 6158, .int .i32 6158, .int .u8 1, .int .i32 6832, .int .i32 6911, .int .u8 2, .int .i32 7616, .int .i32 7679, .int .u8 2, .int .i32 8192, .int .i32 8207, .int .u8 1, .int .i32 8232, .int .i32 8239, .int .u8 1, .int .i32 8287, .int .i32 8303, .int .u8 1, .int .i32 8400, .int .i32 8447, .int .u8 2, .int .i32 11904, .int .i32 12287, .int .u8 3, .int .i32 12288, .int .i32 12288, .int .u8 1, .int .i32 12289, .int .i32 12350, .int .u8 3, .int .i32 12353, .int .i32 19903, .int .u8 3, .int .i32 19968, .int .i32 42191, .int .u8 3, .int .i32 44032, .int .i32 55203, .int .u8 3, .int .i32 55296, .int .i32 57343, .int .u8 1, .int .i32 57344, .int .i32 63743, .int .u8 1, .int .i32 63744, .int .i32 64255, .int .u8 3, .int .i32 64976, .int .i32 65007, .int .u8 1, .int .i32 65024, .int .i32 65039, .int .u8 2, .int .i32 65056, .int .i32 65071, .int .u8 2, .int .i32 65072, .int .i32 65135, .int .u8 3, .int .i32 65279, .int .i32 65279, .int .u8 1, .int .i32 65281, .int .i32 65376, .int .u8 3, .int .i32 65504, .int .i32 65510, .int .u8 3, .int .i32 65529, .int .i32 65531, .int .u8 1, .int .i32 127744, .int .i32 128591, .int .u8 3, .int .i32 129280, .int .i32 129535, .int .u8 3, .int .i32 131072, .int .i32 262141, .int .u8 3, .int .i32 917504, .int .i32 1114111, .int .u8 1]
/-- a world for the witness: the settled one, a block with the rows more, the variables holding their tables -/
noncomputable def laidWorld (os : Os) : World :=
  { World.holding Tryd.prog os ⟨#[.cells rowsV 127], #[], []⟩ with heap := ((((World.holding Tryd.prog os ⟨#[.cells rowsV 127], #[], []⟩).heap.modify 0 (putS (World.settled Tryd.prog os).heap.size)).modify 4 (putL .u8 bru32)).modify 5 (putL .u8 bru64)).modify 2 (putL .u64 Lib.pow10Tab) }
theorem laid_met (os : Os) : laidMet Tryd.prog Rows.textAgainUptoRow.laid ((laidWorld os).forCall (fun _ _ => 0) ⟨#[], #[.slice none 0 0, .slice none 0 0, .string ByteArray.empty], []⟩).memory :=
  laidMet_of_run' 8 (by kernel_rfl) (by kernel_rfl)
theorem reads (os : Os) {H : Type} (enc : TypeId × Value → H) : ∃ places, DataW.whole enc Tryd.prog ((laidWorld os).forCall (fun _ _ => 0) ⟨#[], #[.slice none 0 0, .slice none 0 0, .string ByteArray.empty], []⟩).memory Tryd.f18.params.toList Rows.textAgainSpec.vars false #[Value.slice none 0 0, Value.slice none 0 0, Value.string ByteArray.empty].toList 8 = some ([.nil, .nil, .lit (.string [])], [], places) :=
  ⟨[], by kernel_rfl⟩

set_option maxRecDepth 100000 in
theorem lifted (os : Os) (started : os.Started) (H : Type) (enc : TypeId × Value → H) (F : Stop.Interp) :
    ReturnsInHanded {} Tryd.checked os 18 .any ((Rows.OpenSpec.upto Rows.textAgainSpec).preRow enc Tryd.prog Tryd.f18 Rows.textAgainUptoRow.domain false Rows.textAgainUptoRow.laid) (((Rows.OpenSpec.upto Rows.textAgainSpec).at F).post enc Tryd.prog Tryd.f18 false true false false) := by
  obtain ⟨places, hx⟩ := reads os enc
  refine returnsInHanded_of_row (C := Tryd.checked) (s := Rows.OpenSpec.upto Rows.textAgainSpec) own started (by kernel_rfl) Tryd.func18
    (witness_row_atRef (enc := enc) (C := Tryd.checked) false (laidWorld os) #[.slice none 0 0, .slice none 0 0, .string ByteArray.empty] rfl (by kernel_rfl) (by kernel_rfl) (by kernel_rfl)
      (OpenSpec.preRow_of_cond 8 hx (by kernel_rfl) (fun k hk => by cases hk; rfl) (by kernel_rfl) (laid_met os))) ?_
  intro W base args ds gs before hval hW _ hk _ hL _ _
  exact contract H enc W base args ds gs before hval hW (hk _ rfl) hL

theorem said : Rows.TextAgainUptoSaid :=
  OpenClaim.holds_of_cond 18 Tryd.f18 rfl rfl rfl rfl rfl rfl rfl ⟨rfl, rfl, rfl, rfl, rfl⟩ rfl rfl rfl rfl rfl (by kernel_rfl) Tryd.func18 (by kernel_rfl)
    (of_decide_eq_true (by kernel_rfl)) (by unfold Func.isWrapper; first | (rw [if_pos (by decide +kernel)]; kernel_rfl) | (rw [if_neg (by decide +kernel)]; exact ⟨rfl, rfl⟩))
    (fun os started H enc _ F => by rw [OpenClaim.pre_eq_preRow]; exact lifted os started H enc F)

theorem plainCard (f : FuncId) (fn : Func) (hf : Tryd.pinned.checked.prog.funcNamed "shard/shardlaw1.TextAgain" = some f) (hfn : Tryd.pinned.checked.prog.funcs[f]? = some fn) :
    false = Tryd.pinned.checked.prog.looks [] ∧ ∀ (j : Nat) t, fn.params[j]? = some t → Tryd.pinned.checked.prog.wantsStandIn t = false := by
  obtain rfl : f = 18 := Option.some.inj ((show Tryd.prog.funcNamed "shard/shardlaw1.TextAgain" = some 18 by kernel_rfl).symm.trans hf) |>.symm
  obtain rfl : fn = Tryd.f18 := (Option.some.inj (Tryd.func18.symm.trans hfn)).symm
  refine ⟨by kernel_rfl, fun j t ht => ?_⟩
  rw [Tryd.params18] at ht
  have hm : t = 67 ∨ t = 34 ∨ t = 9 := by
    have := Array.mem_of_getElem? ht
    simpa using this
  rcases hm with rfl | rfl | rfl
  · exact (show Tryd.prog.wantsStandIn 67 = false by kernel_rfl)
  · exact (show Tryd.prog.wantsStandIn 34 = false by kernel_rfl)
  · exact (show Tryd.prog.wantsStandIn 9 = false by kernel_rfl)

theorem card : Rows.TextAgainUptoCardSaid :=
  Claim7.holds_tied_plain_at .later [] _ _ _ _ said (fun _ h => by cases h) (by kernel_rfl) (fun _ h => by cases h) textAgainUpto_row_tie rfl ⟨rfl, rfl⟩ (by kernel_rfl) rfl plainCard (by kernel_rfl)
end Go.Proofs.YtckjededijgjgaaDoor.Agl
namespace Go.Proofs.YtckjededijgjgaaDoor
theorem textAgain_holds : Rows.TextAgainUptoCardSaid := Agl.card
#print axioms textAgain_holds
end Go.Proofs.YtckjededijgjgaaDoor
