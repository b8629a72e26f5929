import Derived.Test.YtchealdgncgjoaaRtU
namespace Go.Proofs.Ytchealdgncgjoaa.StU
open Go.RowKit Go.Proofs.Ytchealdgncgjoaa.St Go.Shelf
set_option linter.unusedVariables false
set_option linter.unusedSimpArgs false
theorem Own.and_box (bb : Nat) (o : Obj) : Own (fun w G => w.heap[bb]? = some o ∧ G bb) := ⟨fun {w w' G T} h k hd => by
  have hb : bb < w.heap.size := blk_lt h.1
  exact ⟨(k.block bb hb (fun q => hd bb hb q.1 h.2)).trans h.1, h.2⟩, fun {w G G'} h hg => ⟨h.1, hg bb (blk_lt h.1) h.2⟩⟩
/-- how a walk may go on from a world: two owners' blocks turn, and those of the walk's own things -/
structure Ext (c d : Nat) (w : World) (col : Nat → Nat) (w' : World) (col' : Nat → Nat) : Prop where
  eq : ∀ i, i < w.heap.size → col' i = col i
  kg : Kg (fun i => col i = c ∨ col i = d ∨ 5 ≤ col i) w w'
section
variable {c d n e : Nat} {w w1 w2 : World} {col col1 col2 : Nat → Nat}
theorem Ext.refl : Ext c d w col w col := ⟨fun _ _ => rfl, Kg.nu (Kp.refl _ _)⟩
theorem Ext.trans (h : Ext c d w col w1 col1) (k : Ext c d w1 col1 w2 col2) : Ext c d w col w2 col2 :=
  ⟨fun i hi => (k.eq i (Nat.lt_of_lt_of_le hi h.kg.size)).trans (h.eq i hi), Kp.trans h.kg k.kg (fun i hi q => ⟨by have this : col1 i = c ∨ col1 i = d ∨ 5 ≤ col1 i := q.1; rw [h.eq i hi] at this; exact this, fun cc m ee => by
    by_cases hq : col i = c ∨ col i = d ∨ 5 ≤ col i
    · have hb := h.kg.block i hi (fun hs => hs.2 cc m ee)
      exact q.2 cc m (hb.trans ee)
    · have this : col1 i = c ∨ col1 i = d ∨ 5 ≤ col1 i := q.1; rw [h.eq i hi] at this; exact hq this⟩)⟩
theorem Ext.step (h : Ext c d w col w1 col1) (k : Kg (Co col1 e) w1 w2) (he : e = c ∨ e = d ∨ 5 ≤ e) (n : Nat) : Ext c d w col w2 (ext w1 col1 n) :=
  h.trans ⟨fun i hi => by unfold ext; rw [if_pos hi], Kg.mono k (fun i hi q => by have q : col1 i = e := q; rcases he with rfl | rfl | he; exact .inl q; exact .inr (.inl q); exact .inr (.inr (by omega)))⟩
theorem Ext.nu (h : Ext c d w col w1 col1) (k : Kp Nu w1 w2) (n : Nat) : Ext c d w col w2 (ext w1 col1 n) :=
  h.trans ⟨fun i hi => by unfold ext; rw [if_pos hi], Kg.nu k⟩
theorem Own.ext {X : World → (Nat → Prop) → Prop} (O : Own X) (h : X w (Co col n)) (k : Ext c d w col w1 col1) (hn : n < 5) (h1 : c ≠ n) (h2 : d ≠ n) : X w1 (Co col1 n) :=
  O.keep (O.mono h (fun i hi hG => (k.eq i hi).trans hG)) k.kg (fun i hi hT hG => by
    have hG : col1 i = n := hG
    rw [k.eq i hi] at hG
    rcases hT with q | q | q <;> omega)
end
/-- a thing of the walk's own and whose it is -/
abbrev Ob := (World → (Nat → Prop) → Prop) × Nat
/-- a walk over both shelves: o1 what the program's has, o2 what the document's has -/
structure Sg (W0 w0 : World) (col0 : Nat → Nat) (c d : Nat) (a b : Value) (obs : List Ob) (o1 o2 : Om) (w : World) (col : Nat → Nat) : Prop where
  nm : c ≠ 0 ∧ d ≠ 0 ∧ c < 5 ∧ d < 5 ∧ c ≠ d
  bz : Bz W0 w col
  ps : Ps w a (Co col c) o1
  ds : Ds w b (Co col d) o2
  ob : ∀ x ∈ obs, Own x.1 ∧ (5 ≤ x.2 ∨ x.2 = d) ∧ x.1 w (Co col x.2)
  fr : Ext c d w0 col0 w col
section
variable {W0 w0 w w' : World} {col0 col : Nat → Nat} {c d n : Nat} {a b : Value} {obs : List Ob} {o1 o2 o' : Om} {X : World → (Nat → Prop) → Prop}
theorem Sg.nu (h : Sg W0 w0 col0 c d a b obs o1 o2 w col) (k : Kp Nu w w') : ∃ col', Sg W0 w0 col0 c d a b obs o1 o2 w' col' :=
  ⟨ext w col 5, h.nm, h.bz.nu k 5, (Own.ps a o1).nu h.ps k 5, (Own.ds b o2).nu h.ds k 5, fun x hx => ⟨(h.ob x hx).1, (h.ob x hx).2.1, (h.ob x hx).1.nu (h.ob x hx).2.2 k 5⟩, h.fr.nu k 5⟩
theorem Sg.new (h : Sg W0 w0 col0 c d a b obs o1 o2 w col) (k : Kp Nu w w') (O : Own X) (hX : X w' (fun i => w.heap.size ≤ i)) (n : Nat) (hn : 5 ≤ n) : ∃ col', Sg W0 w0 col0 c d a b ((X, n) :: obs) o1 o2 w' col' :=
  ⟨ext w col n, h.nm, h.bz.nu k n, (Own.ps a o1).nu h.ps k n, (Own.ds b o2).nu h.ds k n, fun x hx => by
    rcases List.mem_cons.1 hx with rfl | hx
    · exact ⟨O, .inl hn, O.new hX n⟩
    · exact ⟨(h.ob x hx).1, (h.ob x hx).2.1, (h.ob x hx).1.nu (h.ob x hx).2.2 k n⟩, h.fr.nu k n⟩
theorem Sg.p (h : Sg W0 w0 col0 c d a b obs o1 o2 w col) (hp : Ps w' a (Gn (Co col c) w) o') (k : Kg (Co col c) w w') : ∃ col', Sg W0 w0 col0 c d a b obs o' o2 w' col' :=
  ⟨ext w col c, h.nm, h.bz.step k h.nm.1 c, (Own.ps a o').gn hp, (Own.ds b o2).step h.ds k h.nm.2.2.2.2 c, fun x hx => ⟨(h.ob x hx).1, (h.ob x hx).2.1, (h.ob x hx).1.step (h.ob x hx).2.2 k (by have := (h.ob x hx).2.1; have := h.nm; omega) c⟩, h.fr.step k (.inl rfl) c⟩
theorem Sg.dd (h : Sg W0 w0 col0 c d a b obs o1 o2 w col) (hp : Ds w' b (Gn (Co col d) w) o') (k : Kg (Co col d) w w') (h5 : ∀ x ∈ obs, 5 ≤ x.2) : ∃ col', Sg W0 w0 col0 c d a b obs o1 o' w' col' :=
  ⟨ext w col d, h.nm, h.bz.step k h.nm.2.1 d, (Own.ps a o1).step h.ps k (fun e => h.nm.2.2.2.2 e.symm) d, (Own.ds b o').gn hp, fun x hx => ⟨(h.ob x hx).1, (h.ob x hx).2.1, (h.ob x hx).1.step (h.ob x hx).2.2 k (by have := h5 x hx; have := h.nm; omega) d⟩, h.fr.step k (.inr (.inl rfl)) d⟩
/-- the program's shelf changes, and something new is told -/
theorem Sg.pn (h : Sg W0 w0 col0 c d a b obs o1 o2 w col) (hp : Ps w' a (fun i => Co col c i ∧ i < w.heap.size) o') (k : Kg (fun i => Co col c i ∧ i < w.heap.size) w w') (O : Own X) (hX : X w' (fun i => w.heap.size ≤ i)) (n : Nat) (hn : 5 ≤ n) : ∃ col', Sg W0 w0 col0 c d a b ((X, n) :: obs) o' o2 w' col' := by
  have k : Kg (Co col c) w w' := k.mono (fun i hi q => q.1)
  exact ⟨ext w col n, h.nm, h.bz.step k h.nm.1 n, (Own.ps a o').mono hp (fun i hi hG => (co_ext hG.2).2 hG.1), (Own.ds b o2).step h.ds k h.nm.2.2.2.2 n, fun x hx => by
    rcases List.mem_cons.1 hx with rfl | hx
    · exact ⟨O, .inl hn, O.new hX n⟩
    · exact ⟨(h.ob x hx).1, (h.ob x hx).2.1, (h.ob x hx).1.step (h.ob x hx).2.2 k (by have := (h.ob x hx).2.1; have := h.nm; omega) n⟩, h.fr.step k (.inl rfl) n⟩
/-- the document's shelf changes, and something new is told -/
theorem Sg.dn (h : Sg W0 w0 col0 c d a b obs o1 o2 w col) (hp : Ds w' b (Gn (Co col d) w) o') (k : Kg (Co col d) w w') (O : Own X) (hX : X w' (fun i => w.heap.size ≤ i)) (h5 : ∀ x ∈ obs, 5 ≤ x.2) : ∃ col', Sg W0 w0 col0 c d a b ((X, d) :: obs) o1 o' w' col' :=
  ⟨ext w col d, h.nm, h.bz.step k h.nm.2.1 d, (Own.ps a o1).step h.ps k (fun e => h.nm.2.2.2.2 e.symm) d, (Own.ds b o').gn hp, fun x hx => by
    rcases List.mem_cons.1 hx with rfl | hx
    · exact ⟨O, .inr rfl, O.new hX d⟩
    · exact ⟨(h.ob x hx).1, (h.ob x hx).2.1, (h.ob x hx).1.step (h.ob x hx).2.2 k (by have := h5 x hx; have := h.nm; omega) d⟩, h.fr.step k (.inr (.inl rfl)) d⟩
theorem Sg.t (h : Sg W0 w0 col0 c d a b obs o1 o2 w col) (n : Nat) (hn : 5 ≤ n) (k : Kg (Co col n) w w') (ha : ∀ x ∈ obs, x.2 = d ∨ x.2 ≠ n) : ∃ col', Sg W0 w0 col0 c d a b obs o1 o2 w' col' :=
  ⟨ext w col 5, h.nm, h.bz.step k (by omega) 5, (Own.ps a o1).step h.ps k (by have := h.nm; omega) 5, (Own.ds b o2).step h.ds k (by have := h.nm; omega) 5, fun x hx => ⟨(h.ob x hx).1, (h.ob x hx).2.1, (h.ob x hx).1.step (h.ob x hx).2.2 k (by have := ha x hx; have := h.nm; omega) 5⟩, h.fr.step k (.inr (.inr hn)) 5⟩
theorem Sg.take (h : Sg W0 w0 col0 c d a b obs o1 o2 w col) (m : Nat) : Sg W0 w0 col0 c d a b (obs.take m) o1 o2 w col :=
  ⟨h.nm, h.bz, h.ps, h.ds, fun x hx => h.ob x (List.mem_of_mem_take hx), h.fr⟩
/-- what a step leaves -/
def Nx (W0 : World) (c d : Nat) (a b : Value) (w : World) (col : Nat → Nat) (w' : World) : Prop := ∃ col' o', Ext c d w col w' col' ∧ Bz W0 w' col' ∧ Ps w' a (Co col' c) o' ∧ Ds w' b (Co col' d) o'
theorem Sg.nx (h : Sg W0 w0 col0 c d a b obs o' o' w col) : Nx W0 c d a b w0 col0 w := ⟨col, o', h.fr, h.bz, h.ps, h.ds⟩
theorem Sg.call (h : Sg W0 w0 col0 c d a b obs o1 o2 w col) (k : Nx W0 c d a b w col w') : Nx W0 c d a b w0 col0 w' := by
  obtain ⟨col', o', h1, h2, h3, h4⟩ := k
  exact ⟨col', o', h.fr.trans h1, h2, h3, h4⟩
theorem Sg.get (h : Sg W0 w0 col0 c d a b obs o1 o2 w col) {x : Ob} (i : Nat) (hi : obs[i]? = some x) : x.1 w (Co col x.2) := (h.ob x (List.mem_of_getElem? hi)).2.2
end
theorem all5_0 : ∀ x ∈ ([] : List Ob), 5 ≤ x.2 := fun x hx => by cases hx
theorem all5_1 {x : Ob} {l : List Ob} (h : 5 ≤ x.2) (hl : ∀ x ∈ l, 5 ≤ x.2) : ∀ y ∈ x :: l, 5 ≤ y.2 := fun y hy => by
  rcases List.mem_cons.1 hy with rfl | hy
  · exact h
  · exact hl y hy
theorem alln_0 {d n : Nat} : ∀ x ∈ ([] : List Ob), x.2 = d ∨ x.2 ≠ n := fun x hx => by cases hx
theorem alln_1 {d n : Nat} {x : Ob} {l : List Ob} (h : x.2 = d ∨ x.2 ≠ n) (hl : ∀ x ∈ l, x.2 = d ∨ x.2 ≠ n) : ∀ y ∈ x :: l, y.2 = d ∨ y.2 ≠ n := fun y hy => by
  rcases List.mem_cons.1 hy with rfl | hy
  · exact h
  · exact hl y hy
end Go.Proofs.Ytchealdgncgjoaa.StU
namespace Go.Proofs.Ytchealdgncgjoaa.StU
open Go.RowKit Go.Proofs.Ytchealdgncgjoaa.St Go.Shelf
set_option linter.unusedVariables false
set_option linter.unusedSimpArgs false
theorem box7 {w : World} {bb : Nat} {x0 x1 x2 x3 x4 x5 x6 : Value} {t : TypeId} (h : w.heap[bb]? = some (.cells #[x0, x1, x2, x3, x4, x5, x6] t (0, 0))) :
    w.cell? ⟨bb, 0, none⟩ = some x0 ∧ w.cell? ⟨bb, 1, none⟩ = some x1 ∧ w.cell? ⟨bb, 2, none⟩ = some x2 ∧ w.cell? ⟨bb, 3, none⟩ = some x3 ∧ w.cell? ⟨bb, 4, none⟩ = some x4 ∧ w.cell? ⟨bb, 5, none⟩ = some x5 ∧ w.cell? ⟨bb, 6, none⟩ = some x6 := by
  simp [World.cell?, h]
def Sx (W0 w0 : World) (col0 : Nat → Nat) (c d : Nat) (a b : Value) (obs : List Ob) (o1 o2 : Om) (w : World) : Prop := ∃ col, Sg W0 w0 col0 c d a b obs o1 o2 w col
abbrev oBx (bb : Nat) (cv : Array Value) : Ob := (fun w G => w.heap[bb]? = some (.cells cv 121 (0, 0)) ∧ G bb, 5)
abbrev oTp (v : Value) (A : List KV) (n : Nat) : Ob := (fun w G => Tp w v G A, n)
abbrev oTd (v : Value) (A : List KV) (n : Nat) : Ob := (fun w G => Td w v G A, n)
abbrev oRo (v : Sv) (ys : List Int) (n : Nat) : Ob := (Ro v ys, n)
abbrev oRm (v : Sv) (ys : List Int) (n : Nat) : Ob := (Rom v ys, n)
section
variable {W0 w0 w w' : World} {col0 : Nat → Nat} {c d : Nat} {a b : Value} {obs : List Ob} {o1 o2 o : Om}
theorem Sx.start {col : Nat → Nat} (hnm : c ≠ 0 ∧ d ≠ 0 ∧ c < 5 ∧ d < 5 ∧ c ≠ d) (hB : Bz W0 w col) (hP : Ps w a (Co col c) o) (hD : Ds w b (Co col d) o) (cv : Array Value) : Sx W0 w col c d a b [oBx w.heap.size cv] o o (w.alloc (.cells cv 121)) := by
  have h0 : Sg W0 w col c d a b [] o o w col := ⟨hnm, hB, hP, hD, (fun x hx => by cases hx), Ext.refl⟩
  obtain ⟨col', h⟩ := h0.new (Kp.alloc w (.cells cv 121) Nu) (Own.and_box w.heap.size (.cells cv 121 (0, 0))) ⟨heap_alloc_new w _, Nat.le_refl _⟩ 5 (by decide)
  exact ⟨col', h⟩
theorem Sx.nu (h : Sx W0 w0 col0 c d a b obs o1 o2 w) (k : Kp Nu w w') : Sx W0 w0 col0 c d a b obs o1 o2 w' := by
  obtain ⟨col, h⟩ := h
  exact h.nu k
theorem Sx.base (h : Sx W0 w0 col0 c d a b obs o1 o2 w) : Kp Nu W0 w := by
  obtain ⟨col, h⟩ := h
  exact h.bz.1
theorem Sx.nx (h : Sx W0 w0 col0 c d a b obs o o w) : Nx W0 c d a b w0 col0 w := by
  obtain ⟨col, h⟩ := h
  exact h.nx
theorem Sx.take (h : Sx W0 w0 col0 c d a b obs o1 o2 w) (m : Nat) : Sx W0 w0 col0 c d a b (obs.take m) o1 o2 w := by
  obtain ⟨col, h⟩ := h
  exact ⟨col, h.take m⟩
theorem Sx.box (h : Sx W0 w0 col0 c d a b obs o1 o2 w) {bb : Nat} {cv : Array Value} (i : Nat) (hi : obs[i]? = some (oBx bb cv)) : w.heap[bb]? = some (.cells cv 121 (0, 0)) := by
  obtain ⟨col, h⟩ := h
  exact (h.get i hi).1
theorem Sx.small (h : Sx W0 w0 col0 c d a b obs o1 o2 w) : (oM o1).length ≤ 32768 := by
  obtain ⟨col, h⟩ := h
  exact h.ps.small
theorem Sx.same (h : Sx W0 w0 col0 c d a b obs o1 o2 w) (i j : Nat) {v u : Value} {A : List KV} {n m : Nat} (hi : obs[i]? = some (oTp v A n)) (hj : obs[j]? = some (oTd u A m)) (hA : A.length ≤ 32768) :
    Calls Try.prog 75 #[v, u] w fun e w' => e = .returned (.bool true) ∧ Hid (Sx W0 w0 col0 c d a b obs o1 o2 w') := by
  obtain ⟨col, h⟩ := h
  obtain ⟨SA, hA1, e1⟩ := Tp.wp (h.get i hi)
  obtain ⟨SB, hB1, e2⟩ := Td.wp (h.get j hj)
  refine (same75 w v u SA SB hA1 hB1 (e1.trans e2.symm) (by have := congrArg List.length e1; rw [List.length_map] at this; omega)).mono ?_
  rintro e w' ⟨e1, k⟩
  exact ⟨e1, h.nu k⟩
theorem Sx.scanP (h : Sx W0 w0 col0 c d a b obs o1 o2 w) (lo hi lim : Int) (n : Nat) (hn : 5 ≤ n) :
    Calls Try.prog 49 #[a, .int .u64 lo, .int .u64 hi, .int .i64 lim] w fun e w' => ∃ v, e = .returned (.tuple #[v, .bool (scB o1 lo hi lim)]) ∧ Hid (Sx W0 w0 col0 c d a b (oTp v (scA o1 lo hi lim) n :: obs) o1 o2 w') := by
  obtain ⟨col, h⟩ := h
  refine (h.ps.scan lo hi lim).mono ?_
  rintro e w' ⟨v, e1, e2, k⟩
  exact ⟨v, e1, h.new k (Own.tp v _) e2.out n hn⟩
theorem Sx.scanD (h : Sx W0 w0 col0 c d a b obs o1 o2 w) (lo hi lim : Int) (n : Nat) (hn : 5 ≤ n) :
    Calls Try.prog 74 #[b, .int .u64 lo, .int .u64 hi, .int .i64 lim] w fun e w' => ∃ v, e = .returned (.tuple #[v, .bool (scB o2 lo hi lim)]) ∧ Hid (Sx W0 w0 col0 c d a b (oTd v (scA o2 lo hi lim) n :: obs) o1 o2 w') := by
  obtain ⟨col, h⟩ := h
  refine (h.ds.scan lo hi lim).mono ?_
  rintro e w' ⟨v, e1, e2, k⟩
  exact ⟨v, e1, h.new k (Own.td v _) e2.out n hn⟩
theorem Sx.cutP (h : Sx W0 w0 col0 c d a b obs o1 o2 w) (lo hi : Int) (n : Nat) (hn : 5 ≤ n) :
    Calls Try.prog 63 #[a, .int .u64 lo, .int .u64 hi] w fun e w' => ∃ v, e = .returned (.tuple #[v, .int .i64 (cutE o1 lo hi)]) ∧ Hid (Sx W0 w0 col0 c d a b (oTp v (rg lo hi (oM o1)) n :: obs) (oCut o1 lo hi) o2 w') := by
  obtain ⟨col, h⟩ := h
  have hp : Ps w a (fun i => Co col c i ∧ i < w.heap.size) o1 := h.ps.mono (fun i hi q => ⟨q, hi⟩)
  refine (hp.cut lo hi).mono ?_
  rintro e w' ⟨v, e1, e2⟩
  obtain ⟨f1, f2, f3⟩ := e2.out
  exact ⟨v, e1, h.pn f2 f3 (Own.tp v _) f1 n hn⟩
theorem Sx.cutD (h : Sx W0 w0 col0 c d a b obs o1 o2 w) (lo hi : Int) (h5 : ∀ x ∈ obs, 5 ≤ x.2) :
    Calls Try.prog 186 #[b, .int .u64 lo, .int .u64 hi] w fun e w' => ∃ v, e = .returned (.tuple #[v, .int .i64 (cutE o2 lo hi)]) ∧ Hid (Sx W0 w0 col0 c d a b (oTd v (rg lo hi (oM o2)) d :: obs) o1 (oCut o2 lo hi) w') := by
  obtain ⟨col, h⟩ := h
  refine (h.ds.cut lo hi).mono ?_
  rintro e w' ⟨v, e1, e2⟩
  obtain ⟨f1, f2, f3⟩ := e2.out
  exact ⟨v, e1, h.dn f2 f3 (Own.td v _) f1 h5⟩
theorem Sx.spoilL (h : Sx W0 w0 col0 c d a b obs o1 o2 w) (i m : Nat) {v : Value} {A : List KV} {n : Nat} (hi : obs[i]? = some (oTp v A n)) (hn : 5 ≤ n) (hA : A.length ≤ 32768) (ha : ∀ x ∈ obs.take m, x.2 = d ∨ x.2 ≠ n) :
    Calls Try.prog 188 #[v] w fun e w' => e = .returned (.bool true) ∧ Hid (Sx W0 w0 col0 c d a b (obs.take m) o1 o2 w') := by
  obtain ⟨col, h⟩ := h
  refine (Tp.spoil (h.get i hi) (by omega)).mono ?_
  rintro e w' ⟨e1, k⟩
  exact ⟨e1, (h.take m).t n hn k ha⟩
theorem scA_len (o : Om) (lo hi lim : Int) : (scA o lo hi lim).length ≤ (oM o).length := by
  have h1 : (rg lo hi (oM o)).length ≤ (oM o).length := List.length_filter_le _ _
  have h2 : (scA o lo hi lim).length ≤ (rg lo hi (oM o)).length := by rw [List.length_take]; exact Nat.min_le_right _ _
  omega
theorem rg_len (o : Om) (lo hi : Int) : (rg lo hi (oM o)).length ≤ (oM o).length := List.length_filter_le _ _
set_option maxRecDepth 100000 in
set_option maxHeartbeats 4000000 in
/-- the law's lists, at Scan -/
theorem lists_scan {col : Nat → Nat} (hnm : c ≠ 0 ∧ d ≠ 0 ∧ c < 5 ∧ d < 5 ∧ c ≠ d) (hB : Bz W0 w col) (hP : Ps w a (Co col c) o) (hD : Ds w b (Co col d) o) (os lo hi n : Int) (val prs : Value) :
    Calls Try.prog 148 #[a, b, .agg #[.int .i64 5, .int .i64 os, .int .u64 lo, .int .u64 hi, .int .i64 n, val, prs]] w fun e w' => e = .returned (.bool true) ∧ Hid (Nx W0 c d a b w col w') := by
  have HS1 := hide (Sx.start hnm hB hP hD #[.int .i64 5, .int .i64 os, .int .u64 lo, .int .u64 hi, .int .i64 n, val, prs])
  clear hB hP hD hnm
  go_enter Try.func148, Try.ntmps148
  go_wp2_with fail
  generalize w.alloc (.cells #[.int .i64 5, .int .i64 os, .int .u64 lo, .int .u64 hi, .int .i64 n, val, prs] 121) = W1 at *
  obtain ⟨q0, _, q2, q3, q4, _, _⟩ := box7 (HS1.out.box 0 rfl)
  go_wp2_with (first
    | (go_at_call 49; refine (HS1.out.scanP lo hi n 6 (by decide)).mono ?_; rintro e w2 ⟨v2, rfl, HS2⟩; clear q0 q2 q3 q4 HS1; obtain ⟨q0, _, q2, q3, q4, _, _⟩ := box7 (HS2.out.box 1 rfl))
    | (go_at_call 49; refine (HS2.out.scanP 0 18446744073709551615 1048576 7 (by decide)).mono ?_; rintro e w3 ⟨v3, rfl, HS3⟩; clear q0 q2 q3 q4 HS2; obtain ⟨q0, _, q2, q3, q4, _, _⟩ := box7 (HS3.out.box 2 rfl))
    | (go_at_call 49; refine (HS3.out.scanP lo hi n 8 (by decide)).mono ?_; rintro e w4 ⟨v4, rfl, HS4⟩; clear q0 q2 q3 q4 HS3; obtain ⟨q0, _, q2, q3, q4, _, _⟩ := box7 (HS4.out.box 3 rfl))
    | (go_at_call 74; refine (HS4.out.scanD lo hi n 9 (by decide)).mono ?_; rintro e w5 ⟨v5, rfl, HS5⟩; clear q0 q2 q3 q4 HS4)
    | (go_at_call 74; refine (HS5.out.scanD 0 18446744073709551615 1048576 10 (by decide)).mono ?_; rintro e w6 ⟨v6, rfl, HS6⟩; clear HS5; have l1 := hide (Nat.le_trans (scA_len o lo hi n) HS6.out.small); have l2 := hide (Nat.le_trans (scA_len o 0 18446744073709551615 1048576) HS6.out.small))
    | (go_at_call 75; refine (HS6.out.same 4 1 rfl rfl l1.out).mono ?_; rintro e w7 ⟨rfl, HS7⟩; clear HS6)
    | (go_at_call 75; refine (HS7.out.same 3 0 rfl rfl l2.out).mono ?_; rintro e w8 ⟨rfl, HS8⟩; clear HS7)
    | (go_at_call 75; refine (HS8.out.same 2 1 rfl rfl l1.out).mono ?_; rintro e w9 ⟨rfl, HS9⟩; clear HS8)
    | (go_at_call 188; refine (HS9.out.spoilL 4 4 rfl (by decide) l1.out (alln_1 (.inr (by simp)) (alln_1 (.inr (by simp)) (alln_1 (.inr (by simp)) (alln_1 (.inr (by simp)) alln_0))))).mono ?_; rintro e w10 ⟨rfl, HS10⟩; clear HS9)
    | (go_at_call 75; refine (HS10.out.same 3 0 rfl rfl l2.out).mono ?_; rintro e w11 ⟨rfl, HS11⟩; clear HS10)
    | (go_at_call 75; refine (HS11.out.same 2 1 rfl rfl l1.out).mono ?_; rintro e w12 ⟨rfl, HS12⟩; clear HS11)
    | (go_at_call 188; refine (HS12.out.spoilL 3 3 rfl (by decide) l2.out (alln_1 (.inr (by simp)) (alln_1 (.inr (by simp)) (alln_1 (.inr (by simp)) alln_0)))).mono ?_; rintro e w13 ⟨rfl, HS13⟩; clear HS12)
    | (go_at_call 75; refine (HS13.out.same 2 1 rfl rfl l1.out).mono ?_; rintro e w14 ⟨rfl, HS14⟩; clear HS13))
  go_ret
  exact ⟨by simp, HS14.out.nx⟩
set_option maxRecDepth 100000 in
set_option maxHeartbeats 4000000 in
/-- the law's lists, at Cut -/
theorem lists_cut {col : Nat → Nat} (hnm : c ≠ 0 ∧ d ≠ 0 ∧ c < 5 ∧ d < 5 ∧ c ≠ d) (hB : Bz W0 w col) (hP : Ps w a (Co col c) o) (hD : Ds w b (Co col d) o) (os lo hi n : Int) (val prs : Value) :
    Calls Try.prog 148 #[a, b, .agg #[.int .i64 7, .int .i64 os, .int .u64 lo, .int .u64 hi, .int .i64 n, val, prs]] w fun e w' => e = .returned (.bool true) ∧ Hid (Nx W0 c d a b w col w') := by
  have HS1 := hide (Sx.start hnm hB hP hD #[.int .i64 7, .int .i64 os, .int .u64 lo, .int .u64 hi, .int .i64 n, val, prs])
  clear hB hP hD hnm
  go_enter Try.func148, Try.ntmps148
  go_wp2_with fail
  generalize w.alloc (.cells #[.int .i64 7, .int .i64 os, .int .u64 lo, .int .u64 hi, .int .i64 n, val, prs] 121) = W1 at *
  obtain ⟨q0, _, q2, q3, q4, _, _⟩ := box7 (HS1.out.box 0 rfl)
  have l0 := hide (Nat.le_trans (rg_len o lo hi) HS1.out.small)
  go_wp2_with (first
    | (go_at_call 63; refine (HS1.out.cutP lo hi 6 (by decide)).mono ?_; rintro e w2 ⟨v2, rfl, HS2⟩; clear q0 q2 q3 q4 HS1; obtain ⟨q0, _, q2, q3, q4, _, _⟩ := box7 (HS2.out.box 1 rfl))
    | (go_at_call 186; refine (HS2.out.cutD lo hi (all5_1 (by simp) (all5_1 (by simp) all5_0))).mono ?_; rintro e w3 ⟨v3, rfl, HS3⟩; clear q0 q2 q3 q4 HS2; have l2 := hide (Nat.le_trans (scA_len (oCut o lo hi) 0 18446744073709551615 1048576) HS3.out.small))
    | (go_at_call 49; refine (HS3.out.scanP 0 18446744073709551615 1048576 7 (by decide)).mono ?_; rintro e w4 ⟨v4, rfl, HS4⟩; clear HS3)
    | (go_at_call 74; refine (HS4.out.scanD 0 18446744073709551615 1048576 8 (by decide)).mono ?_; rintro e w5 ⟨v5, rfl, HS5⟩; clear HS4)
    | (go_at_call 75; refine (HS5.out.same 3 2 rfl rfl l0.out).mono ?_; rintro e w6 ⟨rfl, HS6⟩; clear HS5)
    | (go_at_call 75; refine (HS6.out.same 1 0 rfl rfl l2.out).mono ?_; rintro e w7 ⟨rfl, HS7⟩; clear HS6)
    | (go_at_call 188; refine (HS7.out.spoilL 3 3 rfl (by decide) l0.out (alln_1 (.inr (by simp)) (alln_1 (.inr (by simp)) (alln_1 (.inl rfl) alln_0)))).mono ?_; rintro e w8 ⟨rfl, HS8⟩; clear HS7)
    | (go_at_call 75; refine (HS8.out.same 1 0 rfl rfl l2.out).mono ?_; rintro e w9 ⟨rfl, HS9⟩; clear HS8)
    | (go_at_call 72; refine (num72 _ _).mono ?_; rintro e w10 ⟨rfl, hw⟩; obtain rfl := hw.symm))
  go_ret
  exact ⟨by simp, HS9.out.nx⟩
end
end Go.Proofs.Ytchealdgncgjoaa.StU
