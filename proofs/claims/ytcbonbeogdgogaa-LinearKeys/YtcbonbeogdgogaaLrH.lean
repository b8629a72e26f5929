import Derived.Test.YtcbonbeogdgogaaLrG
import Derived.Deep.RegionHeld3
import Derived.StillTailTactics
namespace Go.Proofs.Ytcbonbeogdgogaa.Li
open Go.RowKit
set_option linter.unusedVariables false
theorem info91z : (Try.prog.info? 91).map (fun i => (i.zero, i.size, i.bytes)) = some (some (.int .u32 0), 1, 4) := by kernel_rfl
theorem info39z : (Try.prog.info? 39).map (fun i => (i.zero, i.size, i.bytes)) = some (some (.slice none 0 0), 1, 24) := by kernel_rfl
/-- the cells that calls can leave -/
def cvs (L : List Ca) : List (Option (List Int)) := (cqs L).map Cv.o
/-- the search of calls -/
def schOf (L : List Ca) : Sch where
  n := L.length
  m := L.length + 1
  T := fun k i => match L[k]? with
    | none => none
    | some c => stT (cvs L) c i
  B := fun k => match L[k]? with
    | none => 0
    | some c => bset (befs L c) L.length
  must := bset (kns L) L.length
/-- what a cell holds -/
def cellV (Z : World) (b o : Nat) : Value := (Z.cell? ⟨b, o, none⟩).getD undef
theorem cellV_of {Z : World} {b o : Nat} {v : Value} (h : Z.cell? ⟨b, o, none⟩ = some v) : Z.cell? ⟨b, o, none⟩ = some (cellV Z b o) := by
  unfold cellV
  rw [h]
  rfl
theorem cellV_eq {Z : World} {b o : Nat} {v : Value} (h : Z.cell? ⟨b, o, none⟩ = some v) : cellV Z b o = v := by
  unfold cellV
  rw [h]
  rfl
/-- blocks of other types stand -/
def KT (e : TypeId) (w w' : World) : Prop := ∀ (g : Nat) (cur : Array Value) (t : TypeId), t ≠ e → w.heap[g]? = some (.cells cur t (0, 0)) → w'.heap[g]? = some (.cells cur t (0, 0))
theorem KT.nu {e : TypeId} {w w' : World} (k : Kp Nu w w') : KT e w w' := fun g cur t _ hg => box_k hg k
theorem KT.trans {e : TypeId} {a b c : World} (h : KT e a b) (k : KT e b c) : KT e a c := fun g cur t ht hg => k g cur t ht (h g cur t ht hg)
theorem KT.grown {e : TypeId} {w w' : World} {v : Value} {B n size : Nat} {xs : List Value} (ho : w.ownsRow B e size v n xs) (h : w.grownBy w' v.ownBlock) : KT e w w' := fun g cur t ht hg => by
  refine (h.block g (blk_lt hg) (fun q => ?_)).trans hg
  obtain ⟨c, hc⟩ := own_obj ho q.symm
  rw [hc] at hg
  simp only [Option.some.injEq, Obj.cells.injEq] at hg
  exact ht hg.2.1.symm
theorem KT.set {w : World} {b o : Nat} {c : Array Value} {e : TypeId} {u : Value} (h : w.heap[b]? = some (.cells c e (0, 0))) : KT e w (w.setCell ⟨b, o, none⟩ u) := fun g cur t ht hg => by
  have hne : g ≠ b := fun q => by
    rw [q, h] at hg
    simp only [Option.some.injEq, Obj.cells.injEq] at hg
    exact ht hg.2.1.symm
  exact ((Kp.setCell w ⟨b, o, none⟩ u).block g (blk_lt hg) (fun q => hne q)).trans hg
theorem own_kt {w w' : World} {B e t size n : Nat} {v : Value} {xs : List Value} (h : w.ownsRow B t size v n xs) (k : KT e w w') (hne : t ≠ e) : w'.ownsRow B t size v n xs :=
  own_keep h (fun g hg => by obtain ⟨cur, hc⟩ := own_obj h hg; rw [k g cur t hne hc, hc])
theorem Ir.kt {w w' : World} {g N i e : Nat} {f : Nat → Option Nat} (h : Ir w g N f i) (k : KT e w w') (hne : 3 ≠ e) : Ir w' g N f i := by
  obtain ⟨cur, h1, h2, h3⟩ := h.mem
  exact ⟨cur, k g cur 3 hne h1, h2, h3⟩
/-- the rows of the steps -/
structure Rs (w : World) (B m : Nat) (C : List (Option (List Int))) (L : List Ca) (rr : List Nat) : Prop where
  row : ∀ (k a : Nat), rr[k]? = some a → B ≤ a ∧ ∃ c, L[k]? = some c ∧ Ir w a m (stT C c) m
theorem Rs.kt {w w' : World} {B m e : Nat} {C : List (Option (List Int))} {L : List Ca} {rr : List Nat} (h : Rs w B m C L rr) (k : KT e w w') (hne : 3 ≠ e) : Rs w' B m C L rr :=
  ⟨fun j a ha => by obtain ⟨h1, c, h2, h3⟩ := h.row j a ha; exact ⟨h1, c, h2, h3.kt k hne⟩⟩
def srow (m : Nat) (rr : List Nat) : List Value := rr.map (fun (a : Nat) => Value.slice (some ⟨a, 0, none⟩) m m)
def brow (L : List Ca) (i : Nat) : List Value := (L.take i).map (fun c => Value.int .u32 (bset (befs L c) L.length : Int))
/-- where searchOf stands: of so many calls it has the steps, those before, whether they are known; the block of the dead sets is the first new one, that of the search is b -/
structure Sg (w wr : World) (b : Nat) (L : List Ca) (M i j l : Nat) (cv : Value) (sa fa : Option Addr) (cS cF : Nat) (rr : List Nat) : Prop where
  kp : Kp Nu w wr
  box : wr.heap[b]? = some (.cells #[.slice sa i cS, .slice fa j cF, .int .u32 (bset (kns L) l : Int), .slice (some ⟨w.heap.size, 0, none⟩) M M, .slice none 0 0] 94 (0, 0))
  dead : ∃ cur : Array Value, wr.heap[w.heap.size]? = some (.cells cur 91 (0, 0)) ∧ ∀ st, st < M → cur[st]? = some (.int .u32 0)
  cq : wr.ownsRow (b + 1) 64 2 cv (cqs L).length (flatq (cqs L))
  st : wr.ownsRow (b + 1) 39 1 (.slice sa i cS) i (srow (L.length + 1) rr)
  fi : wr.ownsRow (b + 1) 91 1 (.slice fa j cF) j (brow L j)
  rs : Rs wr (b + 1) (L.length + 1) (cvs L) L rr
  len : rr.length = i
  psz : b + 1 ≤ wr.heap.size
  lt : w.heap.size < b
theorem Sg.nu {w wr w7 : World} {b : Nat} {L : List Ca} {M i j l : Nat} {cv : Value} {sa fa : Option Addr} {cS cF : Nat} {rr : List Nat} (h : Sg w wr b L M i j l cv sa fa cS cF rr) (k : Kp Nu wr w7) : Sg w w7 b L M i j l cv sa fa cS cF rr := by
  obtain ⟨cur, d1, d2⟩ := h.dead
  have kt : KT 0 wr w7 := KT.nu k
  exact ⟨h.kp.andNu k, box_k h.box k, ⟨cur, box_k d1 k, d2⟩, own_kt h.cq kt (by decide), own_kt h.st kt (by decide), own_kt h.fi kt (by decide), h.rs.kt kt (by decide), h.len, Nat.le_trans h.psz k.size, h.lt⟩
theorem Sg.six {w w7 w8 : World} {b : Nat} {L : List Ca} {M i j l : Nat} {cv : Value} {sa fa : Option Addr} {cS cF : Nat} {rr : List Nat} (h : Sg w w7 b L M i j l cv sa fa cS cF rr) {c : Ca} (hc : L[i]? = some c) {ga : Nat} (hga : b + 1 ≤ ga) (hir : Ir w7 ga (L.length + 1) (stT (cvs L) c) (L.length + 1)) {g8 cap8 : Nat} (hown : w8.ownsRow (b + 1) 39 1 (.slice (some ⟨g8, 0, none⟩) (i + 1) cap8) (i + 1) (srow (L.length + 1) rr ++ [.slice (some ⟨ga, 0, none⟩) (L.length + 1) (L.length + 1)])) (hgrow : w7.grownBy w8 (Value.slice sa i cS).ownBlock) :
    Sg w (w8.setCell ⟨b, 0, none⟩ (.slice (some ⟨g8, 0, none⟩) (i + 1) cap8)) b L M (i + 1) j l cv (some ⟨g8, 0, none⟩) fa cap8 cF (rr ++ [ga]) := by
  have k1 : KT 39 w7 w8 := KT.grown h.st hgrow
  have b8 := k1 _ _ _ (by decide) h.box
  have k2 : KT 94 w8 (w8.setCell ⟨b, 0, none⟩ (.slice (some ⟨g8, 0, none⟩) (i + 1) cap8)) := KT.set b8
  obtain ⟨cur, d1, d2⟩ := h.dead
  have hlt := h.lt
  refine ⟨?_, set3 b8 0 _, ⟨cur, k2 _ _ _ (by decide) (k1 _ _ _ (by decide) d1), d2⟩, own_kt (own_kt h.cq k1 (by decide)) k2 (by decide), ?_, own_kt (own_kt h.fi k1 (by decide)) k2 (by decide), ⟨fun k a ha => ?_⟩, by rw [List.length_append, h.len]; rfl, ?_, h.lt⟩
  · refine (h.kp.trans (Kp.of_grown hgrow) (fun g hg e => ?_)).andSet _ _ (.inl (by show w.heap.size ≤ b; omega))
    have := own_ge h.st e.symm
    omega
  · have e : srow (L.length + 1) (rr ++ [ga]) = srow (L.length + 1) rr ++ [.slice (some ⟨ga, 0, none⟩) (L.length + 1) (L.length + 1)] := by simp [srow]
    rw [e]
    exact own_kt hown k2 (by decide)
  · have hk := (List.getElem?_eq_some_iff.1 ha).1
    rw [List.length_append] at hk
    simp only [List.length_cons, List.length_nil] at hk
    by_cases e : k = rr.length
    · subst e
      rw [List.getElem?_concat_length] at ha
      cases ha
      rw [h.len]
      exact ⟨hga, c, hc, (hir.kt k1 (by decide)).kt k2 (by decide)⟩
    · rw [List.getElem?_append_left (by omega)] at ha
      obtain ⟨q1, c', q2, q3⟩ := h.rs.row k a ha
      exact ⟨q1, c', q2, (q3.kt k1 (by decide)).kt k2 (by decide)⟩
  · have := h.psz
    have := hgrow.size
    have : (w8.setCell ⟨b, 0, none⟩ (.slice (some ⟨g8, 0, none⟩) (i + 1) cap8)).heap.size = w8.heap.size := by simp [World.setCell]
    omega
theorem Sg.seven {w w7 w8 : World} {b : Nat} {L : List Ca} {M i j l : Nat} {cv : Value} {sa fa : Option Addr} {cS cF : Nat} {rr : List Nat} (h : Sg w w7 b L M i j l cv sa fa cS cF rr) {c : Ca} (hc : L[j]? = some c) {g8 cap8 : Nat} (hown : w8.ownsRow (b + 1) 91 1 (.slice (some ⟨g8, 0, none⟩) (j + 1) cap8) (j + 1) (brow L j ++ [.int .u32 (bset (befs L c) L.length : Int)])) (hgrow : w7.grownBy w8 (Value.slice fa j cF).ownBlock) :
    Sg w (w8.setCell ⟨b, 1, none⟩ (.slice (some ⟨g8, 0, none⟩) (j + 1) cap8)) b L M i (j + 1) l cv sa (some ⟨g8, 0, none⟩) cS cap8 rr := by
  have k1 : KT 91 w7 w8 := KT.grown h.fi hgrow
  have b8 := k1 _ _ _ (by decide) h.box
  have k2 : KT 94 w8 (w8.setCell ⟨b, 1, none⟩ (.slice (some ⟨g8, 0, none⟩) (j + 1) cap8)) := KT.set b8
  obtain ⟨cur, d1, d2⟩ := h.dead
  have hlt := h.lt
  have d8 := (hgrow.block w.heap.size (blk_lt d1) (fun e => by have := own_ge h.fi e.symm; omega)).trans d1
  refine ⟨?_, set3 b8 1 _, ⟨cur, k2 _ _ _ (by decide) d8, d2⟩, own_kt (own_kt h.cq k1 (by decide)) k2 (by decide), own_kt (own_kt h.st k1 (by decide)) k2 (by decide), ?_, (h.rs.kt k1 (by decide)).kt k2 (by decide), h.len, ?_, h.lt⟩
  · refine (h.kp.trans (Kp.of_grown hgrow) (fun g hg e => ?_)).andSet _ _ (.inl (by show w.heap.size ≤ b; omega))
    have := own_ge h.fi e.symm
    omega
  · have e : brow L (j + 1) = brow L j ++ [.int .u32 (bset (befs L c) L.length : Int)] := by
      unfold brow
      rw [List.take_add_one, hc]
      simp
    rw [e]
    exact own_kt hown k2 (by decide)
  · have := h.psz
    have := hgrow.size
    have : (w8.setCell ⟨b, 1, none⟩ (.slice (some ⟨g8, 0, none⟩) (j + 1) cap8)).heap.size = w8.heap.size := by simp [World.setCell]
    omega
theorem Sg.nine {w w8 : World} {b : Nat} {L : List Ca} {M i j l : Nat} {cv : Value} {sa fa : Option Addr} {cS cF : Nat} {rr : List Nat} (h : Sg w w8 b L M i j l cv sa fa cS cF rr) :
    Sg w (w8.setCell ⟨b, 2, none⟩ (.int .u32 (bset (kns L) (l + 1) : Int))) b L M i j (l + 1) cv sa fa cS cF rr := by
  have k2 : KT 94 w8 (w8.setCell ⟨b, 2, none⟩ (.int .u32 (bset (kns L) (l + 1) : Int))) := KT.set h.box
  obtain ⟨cur, d1, d2⟩ := h.dead
  have hlt := h.lt
  refine ⟨h.kp.andSet _ _ (.inl (by show w.heap.size ≤ b; omega)), set3 h.box 2 _, ⟨cur, k2 _ _ _ (by decide) d1, d2⟩, own_kt h.cq k2 (by decide), own_kt h.st k2 (by decide), own_kt h.fi k2 (by decide), h.rs.kt k2 (by decide), h.len, ?_, h.lt⟩
  have := h.psz
  have : (w8.setCell ⟨b, 2, none⟩ (.int .u32 (bset (kns L) (l + 1) : Int))).heap.size = w8.heap.size := by simp [World.setCell]
  omega
/-- the search stands -/
theorem Sg.done {w wr : World} {b : Nat} {L : List Ca} {M : Nat} {cv : Value} {sa fa : Option Addr} {cS cF : Nat} {rr : List Nat} (h : Sg w wr b L M L.length L.length L.length cv sa fa cS cF rr) (hM : M = 2 ^ L.length) : Sr wr wr.heap.size b w.heap.size (schOf L) sa fa cS cF [] none 0 (fun _ => 0) := by
  obtain ⟨cur, d1, d2⟩ := h.dead
  have hlt := h.lt
  subst hM
  refine ⟨h.box, ⟨fun k hk => ?_, fun k hk => ?_⟩, ⟨⟨cur, d1, d2⟩, fun _ _ => by decide, fun _ _ _ hb => by simp at hb⟩, ⟨rfl, .inl ⟨rfl, rfl⟩⟩, by omega, blk_lt h.box, blk_lt d1⟩
  · have hk : k < L.length := hk
    have hkr : k < rr.length := by rw [h.len]; exact hk
    obtain ⟨c, hc⟩ : ∃ c, L[k]? = some c := ⟨_, List.getElem?_eq_getElem hk⟩
    obtain ⟨a, ha⟩ : ∃ a, rr[k]? = some a := ⟨_, List.getElem?_eq_getElem hkr⟩
    obtain ⟨q1, c', q2, q3⟩ := h.rs.row k a ha
    rw [hc] at q2
    cases q2
    rcases h.st.2 with ⟨_, h0⟩ | ⟨g, cap, cur', e, hb', hg, h1, h2, h3, h4⟩
    · omega
    · simp only [Value.slice.injEq] at e
      obtain ⟨rfl, _, rfl⟩ := e
      have hcell : wr.cell? ⟨g, k, none⟩ = some (.slice (some ⟨a, 0, none⟩) (L.length + 1) (L.length + 1)) := by
        have hf : (srow (L.length + 1) rr)[k]? = some (.slice (some ⟨a, 0, none⟩) (L.length + 1) (L.length + 1)) := by simp [srow, ha]
        rw [← h4, List.getElem?_take_of_lt (by omega)] at hf
        exact cellAt hg k (by simpa using hf)
      have gt : g ≠ b := by omega
      refine ⟨g, rfl, ⟨blk_lt hg, by omega, by omega⟩, a, L.length + 1, hcell, ⟨q3.lt, by omega, by omega⟩, fun i hi => ?_⟩
      have e2 : (schOf L).T k i = stT (cvs L) c i := by
        show (match L[k]? with | none => none | some c => stT (cvs L) c i) = _
        rw [hc]
      rw [e2]
      exact q3.at_ hi
  · have hk : k < L.length := hk
    obtain ⟨c, hc⟩ : ∃ c, L[k]? = some c := ⟨_, List.getElem?_eq_getElem hk⟩
    rcases h.fi.2 with ⟨_, h0⟩ | ⟨g, cap, cur', e, hb', hg, h1, h2, h3, h4⟩
    · omega
    · simp only [Value.slice.injEq] at e
      obtain ⟨rfl, _, rfl⟩ := e
      refine ⟨g, rfl, ⟨blk_lt hg, by omega, by omega⟩, ?_⟩
      have e2 : (schOf L).B k = bset (befs L c) L.length := by
        show (match L[k]? with | none => 0 | some c => bset (befs L c) L.length) = _
        rw [hc]
      rw [e2]
      have hf : (brow L L.length)[k]? = some (.int .u32 (bset (befs L c) L.length : Int)) := by
        unfold brow
        rw [List.take_of_length_le (Nat.le_refl _)]
        simp [hc]
      rw [← h4, List.getElem?_take_of_lt (by omega)] at hf
      exact cellAt hg k (by simpa using hf)
theorem dead_made {w1 : World} {base g N : Nat} (h : w1.ownsRow base 91 1 (.slice (some ⟨g, 0, none⟩) N N) N (madeCells (Value.int .u32 0).cells (N * 1)).toList) : ∃ cur : Array Value, w1.heap[g]? = some (.cells cur 91 (0, 0)) ∧ ∀ st, st < N → cur[st]? = some (.int .u32 0) := by
  rcases h.2 with ⟨e, _⟩ | ⟨g', cap, cur, e, hb', hg, h1, h2, h3, h4⟩
  · cases e
  · cases e
    have hz : (Value.int .u32 0).cells = #[.int .u32 0] := rfl
    rw [hz, toList_madeCells_one, Nat.mul_one] at h4
    refine ⟨cur, hg, fun q hq => ?_⟩
    have e := congrArg (fun l => l[q]?) h4
    rw [List.getElem?_take_of_lt hq, List.getElem?_replicate] at e
    simpa [hq] using e
end Go.Proofs.Ytcbonbeogdgogaa.Li
