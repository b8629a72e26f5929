import Derived.Test.YthajboipnjjgfaaBlD
import Derived.Test.YthajboipnjjgfaaBaA
namespace Go.Proofs.Ythajboipnjjgfaa.Ly
open Go.RowKit Go.Maps
set_option linter.unusedVariables false

/-- a datagram of the document's history -/
structure Hg where
  f : Int
  t : Int
  d : Value
  ys : List Int
  gone : Bool
def Hg.cells (h : Hg) : List Value := [.int .i64 h.f, .int .i64 h.t, h.d, .bool h.gone]
def hcells (H : List Hg) : List Value := H.flatMap Hg.cells
def hbare (h : Hg) : Int × Int × List Int := (h.f, h.t, h.ys)
/-- those that have not gone -/
def liv (H : List Hg) : List Hg := H.filter fun h => !h.gone
/-- their places -/
def pls : Nat → List Hg → List Nat
  | _, [] => []
  | k, h :: r => if h.gone then pls (k + 1) r else k :: pls (k + 1) r
/-- the list is what has not gone -/
def Al (L : List Gm) (H : List Hg) : Prop := L.map bare = (liv H).map hbare
theorem hcells_length (H : List Hg) : (hcells H).length = H.length * 4 := by
  induction H with
  | nil => rfl
  | cons g r ih => simp only [hcells, List.flatMap_cons, List.length_append] at *; rw [ih]; simp [Hg.cells]; omega
theorem hcells_append (a b : List Hg) : hcells (a ++ b) = hcells a ++ hcells b := by simp [hcells]
theorem hcells_at : ∀ (L : List Hg) (i : Nat) (g : Hg), L[i]? = some g → ∀ j, j < 4 → (hcells L)[i * 4 + j]? = g.cells[j]?
  | [], i, g, hi, j, hj => by simp at hi
  | x :: r, 0, g, hi, j, hj => by
    simp at hi
    subst hi
    simp only [hcells, List.flatMap_cons, Nat.zero_mul, Nat.zero_add]
    rw [List.getElem?_append_left (by simp [Hg.cells]; omega)]
  | x :: r, i + 1, g, hi, j, hj => by
    have := hcells_at r i g (by simpa using hi) j hj
    simp only [hcells, List.flatMap_cons] at this ⊢
    rw [List.getElem?_append_right (by simp [Hg.cells]; omega), ← this]
    congr 1
    simp [Hg.cells]
    omega
/-- one has gone -/
def goneAt (H : List Hg) (j : Nat) : List Hg := H.modify j fun h => { h with gone := true }
theorem goneAt_length (H : List Hg) (j : Nat) : (goneAt H j).length = H.length := by simp [goneAt]
theorem goneAt_same {H : List Hg} {j : Nat} {h : Hg} (hj : H[j]? = some h) : (goneAt H j)[j]? = some { h with gone := true } := by
  simp [goneAt, hj]
theorem goneAt_other {H : List Hg} {i j : Nat} (h : i ≠ j) : (goneAt H j)[i]? = H[i]? := by
  have : j ≠ i := fun e => h e.symm
  simp [goneAt, this]
theorem hcells_gone : ∀ (H : List Hg) (j : Nat), j < H.length → hcells (goneAt H j) = (hcells H).set (j * 4 + 3) (.bool true)
  | [], j, h => by simp at h
  | x :: r, 0, _ => by simp [goneAt, hcells, Hg.cells]
  | x :: r, j + 1, h => by
    have := hcells_gone r j (by simpa using h)
    simp only [goneAt, List.modify_succ_cons, hcells, List.flatMap_cons] at this ⊢
    rw [this]
    have e : (j + 1) * 4 + 3 = (j * 4 + 3) + 4 := by omega
    rw [e]
    simp [Hg.cells]
theorem pls_append : ∀ (a : List Hg) (k : Nat) (b : List Hg), pls k (a ++ b) = pls k a ++ pls (k + a.length) b
  | [], k, b => by simp [pls]
  | g :: r, k, b => by
    have e : k + (r.length + 1) = k + 1 + r.length := by omega
    simp only [List.cons_append, pls, List.length_cons]
    rw [pls_append r (k + 1) b, e]
    split <;> simp
theorem pls_step {H : List Hg} {k : Nat} {h : Hg} (hk : H[k]? = some h) : pls 0 (H.take (k + 1)) = pls 0 (H.take k) ++ (if h.gone then [] else [k]) := by
  have hlt : k < H.length := (List.getElem?_eq_some_iff.1 hk).1
  rw [List.take_add_one, hk, pls_append, List.length_take, Nat.min_eq_left (by omega)]
  simp only [Option.toList, pls, Nat.zero_add]
theorem pls_length : ∀ (H : List Hg) (k : Nat), (pls k H).length = (liv H).length
  | [], k => by simp [pls, liv]
  | h :: r, k => by
    have := pls_length r (k + 1)
    unfold liv at this ⊢
    cases hg : h.gone <;> simp [pls, hg, this]
theorem pls_at : ∀ (H : List Hg) (k m j : Nat), (pls k H)[m]? = some j → k ≤ j ∧ H[j - k]? = (liv H)[m]? ∧ ∃ h, H[j - k]? = some h ∧ h.gone = false
  | [], k, m, j, h => by simp [pls] at h
  | x :: r, k, m, j, h => by
    cases hg : x.gone
    · simp only [pls, hg, Bool.false_eq_true, if_false] at h
      cases m with
      | zero =>
        simp at h
        subst h
        refine ⟨Nat.le_refl _, by simp [liv, hg], x, by simp, hg⟩
      | succ m =>
        rw [List.getElem?_cons_succ] at h
        obtain ⟨h1, h2, y, h3, h4⟩ := pls_at r (k + 1) m j h
        have e : j - k = (j - (k + 1)) + 1 := by omega
        refine ⟨by omega, ?_, y, by rw [e]; simpa using h3, h4⟩
        rw [e, List.getElem?_cons_succ, h2]
        simp [liv, hg]
    · simp only [pls, hg, if_true] at h
      obtain ⟨h1, h2, y, h3, h4⟩ := pls_at r (k + 1) m j h
      have e : j - k = (j - (k + 1)) + 1 := by omega
      refine ⟨by omega, ?_, y, by rw [e]; simpa using h3, h4⟩
      rw [e, List.getElem?_cons_succ, h2]
      simp [liv, hg]
theorem pls_lt : ∀ (H : List Hg) (k m j : Nat), (pls k H)[m]? = some j → j < k + H.length := by
  intro H k m j h
  obtain ⟨h1, _, y, h3, _⟩ := pls_at H k m j h
  have := (List.getElem?_eq_some_iff.1 h3).1
  omega
theorem pls_mem : ∀ (H : List Hg) (k j : Nat), j ∈ pls k H ↔ (k ≤ j ∧ ∃ h, H[j - k]? = some h ∧ h.gone = false)
  | [], k, j => by simp [pls]
  | x :: r, k, j => by
    have ih := pls_mem r (k + 1) j
    by_cases e : j = k
    · subst e
      have : j ∉ pls (j + 1) r := fun hh => by have := (ih.1 hh).1; omega
      cases hg : x.gone <;> simp [pls, hg, this]
    · constructor
      · intro hm
        have hm' : j ∈ pls (k + 1) r := by
          cases hg : x.gone <;> simp [pls, hg] at hm
          · rcases hm with hm | hm
            · exact absurd hm e
            · exact hm
          · exact hm
        obtain ⟨h1, y, h2, h3⟩ := ih.1 hm'
        have e2 : j - k = (j - (k + 1)) + 1 := by omega
        exact ⟨by omega, y, by rw [e2]; simpa using h2, h3⟩
      · rintro ⟨h1, y, h2, h3⟩
        have e2 : j - k = (j - (k + 1)) + 1 := by omega
        rw [e2, List.getElem?_cons_succ] at h2
        have hm' := ih.2 ⟨by omega, y, h2, h3⟩
        cases hg : x.gone <;> simp [pls, hg, hm']
theorem pls_nodup : ∀ (H : List Hg) (k : Nat), (pls k H).Nodup
  | [], k => by simp [pls]
  | x :: r, k => by
    have ih := pls_nodup r (k + 1)
    have : k ∉ pls (k + 1) r := fun hh => by have := ((pls_mem r (k + 1) k).1 hh).1; omega
    cases hg : x.gone <;> simp [pls, hg, ih, this]

/-- H' is H, but for those of P, which have gone -/
structure Mk (P : Nat → Bool) (H H' : List Hg) : Prop where
  len : H'.length = H.length
  at' : ∀ (j : Nat) (h : Hg), H[j]? = some h → H'[j]? = some { h with gone := h.gone || P j }
theorem Mk.tail {P : Nat → Bool} {x x' : Hg} {r r' : List Hg} (h : Mk P (x :: r) (x' :: r')) : x' = { x with gone := x.gone || P 0 } ∧ Mk (fun j => P (j + 1)) r r' := by
  refine ⟨by simpa using h.at' 0 x rfl, ⟨by simpa using h.len, fun j y hy => by simpa using h.at' (j + 1) y (by simpa using hy)⟩⟩
theorem Mk.refl (H : List Hg) : Mk (fun _ => false) H H := ⟨rfl, fun j h hj => by simpa using hj⟩
theorem Mk.congr {P Q : Nat → Bool} {H H' : List Hg} (h : Mk P H H') (e : ∀ j y, H[j]? = some y → y.gone = false → P j = Q j) : Mk Q H H' := ⟨h.len, fun j y hy => by
  rw [h.at' j y hy]
  cases hg : y.gone
  · rw [e j y hy hg]
  · simp⟩
theorem Mk.one {P : Nat → Bool} {H H' : List Hg} (h : Mk P H H') (j : Nat) : Mk (fun i => P i || decide (i = j)) H (goneAt H' j) := by
  refine ⟨by rw [goneAt_length, h.len], fun i y hy => ?_⟩
  by_cases e : i = j
  · subst e
    rw [goneAt_same (h.at' i y hy)]
    simp
  · rw [goneAt_other e, h.at' i y hy]
    simp [e]
/-- what is left of the list -/
theorem Mk.al : ∀ (H H' : List Hg) (L : List Gm) (P : Nat → Bool) (q : Nat → Gm → Bool) (i k : Nat), Mk P H H' → Al L H →
    (∀ m j g, (pls k H)[m]? = some j → L[m]? = some g → P (j - k) = q (i + m) g) → Al (sift q i L) H'
  | [], H', L, P, q, i, k, h, ha, _ => by
    have : H' = [] := List.eq_nil_of_length_eq_zero (by simpa using h.len)
    subst this
    have : L = [] := by simpa [Al, liv] using ha
    subst this
    simp [sift, Al, liv]
  | x :: r, [], L, P, q, i, k, h, ha, _ => by have := h.len; simp at this
  | x :: r, x' :: r', L, P, q, i, k, h, ha, hq => by
    obtain ⟨rfl, ht⟩ := h.tail
    cases hg : x.gone
    · have ha' : L.map bare = hbare x :: (liv r).map hbare := by simpa [Al, liv, hg] using ha
      match L, ha' with
      | g :: L', ha' =>
        simp only [List.map_cons, List.cons.injEq] at ha'
        have hP : P 0 = q i g := by
          have := hq 0 k g (by simp [pls, hg]) (by simp)
          simpa using this
        have ih := Mk.al r r' L' (fun j => P (j + 1)) q (i + 1) (k + 1) ht ha'.2 (fun m j y hm hy => by
          have hle := (pls_at r (k + 1) m j hm).1
          have := hq (m + 1) j y (by simp [pls, hg, hm]) (by simpa using hy)
          have e1 : j - (k + 1) + 1 = j - k := by omega
          have e2 : i + 1 + m = i + (m + 1) := by omega
          rw [e1, e2]
          exact this)
        cases hp : q i g
        · rw [hp] at hP
          simp only [Al, sift, hp, liv, hP] at ih ⊢
          simp [ih, ha'.1]
          rfl
        · rw [hp] at hP
          simp only [Al, sift, hp, liv, hP] at ih ⊢
          simpa using ih
    · have ha' : Al L r := by simpa [Al, liv, hg] using ha
      have ih := Mk.al r r' L (fun j => P (j + 1)) q i (k + 1) ht ha' (fun m j y hm hy => by
          have hle := (pls_at r (k + 1) m j hm).1
          have := hq m j y (by simp [pls, hg, hm]) hy
          have e1 : j - (k + 1) + 1 = j - k := by omega
          rw [e1]
          exact this)
      simpa [Al, liv, hg] using ih
theorem Al.length {L : List Gm} {H : List Hg} (h : Al L H) : (pls 0 H).length = L.length := by
  have := congrArg List.length h
  rw [pls_length]
  simpa using this.symm
theorem Al.at {L : List Gm} {H : List Hg} (h : Al L H) {m j : Nat} {g : Gm} (hj : (pls 0 H)[m]? = some j) (hg : L[m]? = some g) : ∃ x, H[j]? = some x ∧ x.gone = false ∧ x.f = g.f ∧ x.t = g.t ∧ x.ys = g.ys := by
  obtain ⟨_, h2, x, h3, h4⟩ := pls_at H 0 m j hj
  simp only [Nat.sub_zero] at h2 h3
  refine ⟨x, h3, h4, ?_⟩
  have e : (L.map bare)[m]? = ((liv H).map hbare)[m]? := by rw [h]
  rw [List.getElem?_map, List.getElem?_map, hg, ← h2, h3] at e
  simp only [Option.map_some, Option.some.injEq, bare, hbare, Prod.mk.injEq] at e
  exact ⟨e.1.symm, e.2.1.symm, e.2.2.symm⟩
theorem Al.push {L : List Gm} {H : List Hg} (h : Al L H) {g : Gm} {x : Hg} (hg : x.gone = false) (e : bare g = hbare x) : Al (L ++ [g]) (H ++ [x]) := by
  unfold Al liv at *
  simp [h, hg, e]
theorem cut_sift (L : List Gm) (p : Nat) : ∀ i, cut L p = sift (fun k _ => decide (k = i + p)) i L := by
  induction L generalizing p with
  | nil => intro i; simp [cut, sift]
  | cons g r ih =>
    intro i
    cases p with
    | zero =>
      have e : ∀ (l : List Gm) k, i < k → sift (fun k _ => decide (k = i)) k l = l := by
        intro l
        induction l with
        | nil => intro k _; rfl
        | cons y s ih2 =>
          intro k hk
          have : ¬ k = i := by omega
          simp [sift, this, ih2 (k + 1) (by omega)]
      simp [cut, sift, e r (i + 1) (by omega)]
    | succ p =>
      have h1 : ¬ i = i + (p + 1) := by omega
      have h2 := ih p (i + 1)
      have e : i + 1 + p = i + (p + 1) := by omega
      rw [e] at h2
      simp only [sift, h1, decide_false, Bool.false_eq_true, if_false]
      rw [← h2]
      simp [cut]
theorem liv_gone {H : List Hg} {j : Nat} {h : Hg} (hj : H[j]? = some h) (hg : h.gone = false) : (liv (goneAt H j)).length + 1 = (liv H).length := by
  induction H generalizing j with
  | nil => simp at hj
  | cons x r ih =>
    cases j with
    | zero =>
      simp at hj; subst hj
      simp [goneAt, liv, hg]
    | succ j =>
      have := ih (j := j) (by simpa using hj)
      unfold liv goneAt at this ⊢
      rw [List.modify_succ_cons]
      cases hx : x.gone <;> simp [hx] <;> omega

/-! the document's network in memory -/
def isF : Value → Bool
  | .bool b => !b
  | _ => false
def isZ : Value → Bool
  | .int .i64 n => n == 0
  | _ => false
theorem zc_mid : ((Try.zeroCells117.toList.drop 3).take 65536).all isF = true := by kernel_rfl
theorem zc_end : (Try.zeroCells117.toList.drop 65539).all isZ = true := by kernel_rfl
theorem zc_head : Try.zeroCells117.toList.take 3 = [.bool false, .int .i64 0, .slice none 0 0] := by kernel_rfl
theorem isF_eq {v : Value} (h : isF v = true) : v = .bool false := by
  unfold isF at h
  split at h
  · simp at h; subst h; rfl
  · cases h
theorem isZ_eq {v : Value} (h : isZ v = true) : v = .int .i64 0 := by
  unfold isZ at h
  split at h
  · simp at h; subst h; rfl
  · cases h

def ctL (c : Ct) : List Int := [c.s, c.i, c.d, c.c, c.x, c.l, c.b]
structure Rc (cur : Array Value) (there : Bool) (room : Int) (v : Value) (bs : Nat → Bool) (c : Ct) : Prop where
  c0 : cur[0]? = some (.bool there)
  c1 : cur[1]? = some (.int .i64 room)
  c2 : cur[2]? = some v
  cb : ∀ k, k < 65536 → cur[3 + k]? = some (.bool (bs k))
  cc : ∀ (j : Nat) (x : Int), (ctL c)[j]? = some x → cur[65539 + j]? = some (.int .i64 x)
def upd (bs : Nat → Bool) (k : Nat) (b : Bool) : Nat → Bool := fun i => if i = k then b else bs i
theorem ctL_lt {c : Ct} {j : Nat} {x : Int} (h : (ctL c)[j]? = some x) : j < 7 := by
  have := (List.getElem?_eq_some_iff.1 h).1
  simpa [ctL] using this

theorem rc_zero {Z : Array Value} (hs : Z.size = 65546) (h0 : Z.toList.take 3 = [.bool false, .int .i64 0, .slice none 0 0]) (h1 : ((Z.toList.drop 3).take 65536).all isF = true) (h2 : (Z.toList.drop 65539).all isZ = true) : Rc Z false 0 (.slice none 0 0) (fun _ => false) Ct0 := by
  have a : ∀ j, j < 3 → Z[j]? = [Value.bool false, .int .i64 0, .slice none 0 0][j]? := fun j hj => by
    rw [← h0, List.getElem?_take_of_lt hj, Array.getElem?_toList]
  refine ⟨a 0 (by omega), a 1 (by omega), a 2 (by omega), fun k hk => ?_, fun j x hx => ?_⟩
  · rw [List.all_eq_true] at h1
    have hlt : 3 + k < Z.size := by omega
    rw [Array.getElem?_eq_getElem hlt]
    have := isF_eq (h1 Z[3 + k] (List.mem_of_getElem? (i := k) (by rw [List.getElem?_take_of_lt hk, List.getElem?_drop, Array.getElem?_toList, Array.getElem?_eq_getElem hlt])))
    rw [this]
  · rw [List.all_eq_true] at h2
    have hj := ctL_lt hx
    have hlt : 65539 + j < Z.size := by omega
    rw [Array.getElem?_eq_getElem hlt]
    have := isZ_eq (h2 Z[65539 + j] (List.mem_of_getElem? (i := j) (by rw [List.getElem?_drop, Array.getElem?_toList, Array.getElem?_eq_getElem hlt])))
    have hx0 : x = 0 := by
      have hm := List.mem_of_getElem? hx
      simpa [ctL, Ct0] using hm
    rw [this, hx0]
theorem Rc.zero : Rc Try.zeroCells117 false 0 (.slice none 0 0) (fun _ => false) Ct0 := rc_zero Try.zeroCells117_size zc_head zc_mid zc_end
theorem at_set {cur : Array Value} {o i : Nat} {u x : Value} (h : cur[i]? = some x) (hn : o ≠ i) : (cur.setIfInBounds o u)[i]? = some x := by
  rw [Array.getElem?_setIfInBounds_ne hn, h]
theorem at_self {cur : Array Value} {o : Nat} {u x : Value} (h : cur[o]? = some x) : (cur.setIfInBounds o u)[o]? = some u := by
  have hlt : o < cur.size := (Array.getElem?_eq_some_iff.1 h).1
  rw [Array.getElem?_setIfInBounds_self_of_lt hlt]

section
variable {cur : Array Value} {there : Bool} {room : Int} {v : Value} {bs : Nat → Bool} {c : Ct}
theorem Rc.set0 (h : Rc cur there room v bs c) (b : Bool) : Rc (cur.setIfInBounds 0 (.bool b)) b room v bs c :=
  ⟨at_self h.c0, at_set h.c1 (by omega), at_set h.c2 (by omega), fun k hk => at_set (h.cb k hk) (by omega), fun j x hx => at_set (h.cc j x hx) (by omega)⟩
theorem Rc.set1 (h : Rc cur there room v bs c) (n : Int) : Rc (cur.setIfInBounds 1 (.int .i64 n)) there n v bs c :=
  ⟨at_set h.c0 (by omega), at_self h.c1, at_set h.c2 (by omega), fun k hk => at_set (h.cb k hk) (by omega), fun j x hx => at_set (h.cc j x hx) (by omega)⟩
theorem Rc.set2 (h : Rc cur there room v bs c) (v' : Value) : Rc (cur.setIfInBounds 2 v') there room v' bs c :=
  ⟨at_set h.c0 (by omega), at_set h.c1 (by omega), at_self h.c2, fun k hk => at_set (h.cb k hk) (by omega), fun j x hx => at_set (h.cc j x hx) (by omega)⟩
theorem Rc.setB (h : Rc cur there room v bs c) {k : Nat} (hk : k < 65536) (b : Bool) : Rc (cur.setIfInBounds (3 + k) (.bool b)) there room v (upd bs k b) c :=
  ⟨at_set h.c0 (by omega), at_set h.c1 (by omega), at_set h.c2 (by omega), fun i hi => by
    by_cases e : i = k
    · subst e
      rw [at_self (h.cb i hi)]
      simp [upd]
    · rw [at_set (h.cb i hi) (by omega)]
      simp [upd, e], fun j x hx => at_set (h.cc j x hx) (by omega)⟩
theorem Rc.setC (h : Rc cur there room v bs c) {j : Nat} {x : Int} {c' : Ct} (hj : j < 7) (e : ctL c' = (ctL c).set j x) : Rc (cur.setIfInBounds (65539 + j) (.int .i64 x)) there room v bs c' :=
  ⟨at_set h.c0 (by omega), at_set h.c1 (by omega), at_set h.c2 (by omega), fun i hi => at_set (h.cb i hi) (by omega), fun i y hy => by
    rw [e] at hy
    by_cases ei : i = j
    · subst ei
      have hl : i < (ctL c).length := by simpa [ctL] using hj
      rw [List.getElem?_set_self hl] at hy
      obtain rfl : x = y := by simpa using hy
      exact at_self (h.cc i _ (List.getElem?_eq_getElem hl))
    · rw [List.getElem?_set_ne (by omega)] at hy
      exact at_set (h.cc i y hy) (by omega)⟩
end

def Hg.gm (h : Hg) : Gm := ⟨h.f, h.t, h.d, h.ys⟩
structure Rn (B : Nat) (w : World) (p : Nat) (there : Bool) (room : Int) (bs : Nat → Bool) (v : Value) (c : Ct) (H : List Hg) : Prop where
  blk : ∃ cur : Array Value, w.heap[p]? = some (.cells cur 117 (0, 0)) ∧ Rc cur there room v bs c
  own : w.ownsRow B 120 4 v H.length (hcells H)
  dat : ∀ h ∈ H, Dg w B h.gm
  hb : B ≤ p
def fq (p : Nat) (v : Value) : Nat → Prop := fun k => k = p ∨ some k = v.ownBlock

section
variable {B p : Nat} {w w' : World} {there : Bool} {room : Int} {bs : Nat → Bool} {v : Value} {c : Ct} {H : List Hg}

theorem Rn.c0 (h : Rn B w p there room bs v c H) : w.cell? ⟨p, 0, none⟩ = some (.bool there) := by
  obtain ⟨cur, hb, hc⟩ := h.blk
  simp [World.cell?, hb, hc.c0]
theorem Rn.c1 (h : Rn B w p there room bs v c H) : w.cell? ⟨p, 1, none⟩ = some (.int .i64 room) := by
  obtain ⟨cur, hb, hc⟩ := h.blk
  simp [World.cell?, hb, hc.c1]
theorem Rn.c2 (h : Rn B w p there room bs v c H) : w.cell? ⟨p, 2, none⟩ = some v := by
  obtain ⟨cur, hb, hc⟩ := h.blk
  simp [World.cell?, hb, hc.c2]
theorem Rn.cb (h : Rn B w p there room bs v c H) {k : Nat} (hk : k < 65536) : w.cell? ⟨p, 3 + k, none⟩ = some (.bool (bs k)) := by
  obtain ⟨cur, hb, hc⟩ := h.blk
  simp [World.cell?, hb, hc.cb k hk]
theorem Rn.cc (h : Rn B w p there room bs v c H) {j : Nat} {x : Int} (hj : (ctL c)[j]? = some x) : w.cell? ⟨p, 65539 + j, none⟩ = some (.int .i64 x) := by
  obtain ⟨cur, hb, hc⟩ := h.blk
  simp [World.cell?, hb, hc.cc j x hj]
theorem Rn.free (h : Rn B w p there room bs v c H) (o : Nat) : w.frozen? ⟨p, o, none⟩ = false := by
  obtain ⟨cur, hb, hc⟩ := h.blk
  exact free3 hb o
theorem Rn.ne_own (h : Rn B w p there room bs v c H) {g : Nat} (hg : v.ownBlock = some g) : g ≠ p := by
  obtain ⟨cur, hc⟩ := own_obj h.own hg
  obtain ⟨cu, hb, _⟩ := h.blk
  rintro rfl; rw [hb] at hc; cases hc
/-- a block of bytes is none of its own -/
theorem Rn.byte (h : Rn B w p there room bs v c H) {k : Nat} {cur : Array Value} (hk : w.heap[k]? = some (.cells cur 5 (0, 0))) : ¬ fq p v k := by
  obtain ⟨cu, hb, _⟩ := h.blk
  rintro (rfl | e)
  · rw [hb] at hk; cases hk
  · obtain ⟨cur', hc⟩ := own_obj h.own e.symm
    rw [hc] at hk; cases hk
theorem Rn.lt (h : Rn B w p there room bs v c H) : p < w.heap.size := by
  obtain ⟨cu, hb, _⟩ := h.blk
  exact blk_lt hb
theorem Rn.keep {S : Nat → Prop} (h : Rn B w p there room bs v c H) (k : Kp S w w') (hS : ∀ i, i < w.heap.size → S i → ¬ fq p v i ∧ ∀ cur, w.heap[i]? ≠ some (.cells cur 5 (0, 0))) : Rn B w' p there room bs v c H := by
  have kb : ∀ i o, w.heap[i]? = some o → fq p v i → w'.heap[i]? = w.heap[i]? := fun i o hi hf => k.block i (blk_lt hi) (fun hs => (hS i (blk_lt hi) hs).1 hf)
  obtain ⟨cu, hb, hc⟩ := h.blk
  refine ⟨⟨cu, (kb p _ hb (.inl rfl)).trans hb, hc⟩, own_keep h.own (fun g hg => ?_), fun g hg => (h.dat g hg).keep (fun i cur hi => k.block i (blk_lt hi) (fun hs => (hS i (blk_lt hi) hs).2 cur hi)), h.hb⟩
  obtain ⟨cur, hc⟩ := own_obj h.own hg
  exact kb g _ hc (.inr hg.symm)
theorem Rn.nu (h : Rn B w p there room bs v c H) (k : Kp Nu w w') : Rn B w' p there room bs v c H := h.keep k (fun i _ hs => hs.elim)
/-- one of its own cells is written -/
theorem Rn.set (h : Rn B w p there room bs v c H) (o : Nat) (u : Value) {bs' : Nat → Bool} {c' : Ct} (he : ∀ cur, Rc cur there room v bs c → Rc (cur.setIfInBounds o u) there room v bs' c') : Rn B (w.setCell ⟨p, o, none⟩ u) p there room bs' v c' H := by
  have k : Kp (fun k => k = p) w (w.setCell ⟨p, o, none⟩ u) := Kp.setCell w ⟨p, o, none⟩ u
  obtain ⟨cu, hb, hc⟩ := h.blk
  exact ⟨⟨_, set3 hb o u, he _ hc⟩, own_keep h.own (fun g hg => k.block g (own_lt h.own hg) (h.ne_own hg)), fun g hg => (h.dat g hg).keep (fun i cur hi => k.block i (blk_lt hi) (fun e => h.byte hi (.inl e))), h.hb⟩
theorem Rn.low (h : Rn B w p there room bs v c H) : ∀ k, fq p v k → B ≤ k := by
  rintro k (rfl | e)
  · exact h.hb
  · rcases h.own.2 with ⟨rfl, _⟩ | ⟨g, cap, cur, rfl, hg, _⟩
    · cases e
    · simp [Value.ownBlock] at e; omega
end

/-- what has turned from w to w', where the history's slice went from v to v' -/
structure Fq (p : Nat) (v : Value) (w w' : World) (v' : Value) : Prop where
  kp : Kp (fq p v) w w'
  lie : v'.ownBlock = v.ownBlock ∨ ∃ g, w.heap.size ≤ g ∧ v'.ownBlock = some g
theorem Fq.refl (p : Nat) (v : Value) (w : World) : Fq p v w w v := ⟨Kp.refl _ _, .inl rfl⟩
theorem Fq.of_nu {p : Nat} {v : Value} {w w' : World} (k : Kp Nu w w') : Fq p v w w' v := ⟨k.mono (fun _ _ h => h.elim), .inl rfl⟩
theorem Fq.of_kp {p : Nat} {v : Value} {w w' : World} (k : Kp (fq p v) w w') : Fq p v w w' v := ⟨k, .inl rfl⟩
theorem Fq.trans {p : Nat} {v v' v'' : Value} {w w' w'' : World} (h : Fq p v w w' v') (k : Fq p v' w' w'' v'') : Fq p v w w'' v'' := by
  refine ⟨h.kp.trans k.kp ?_, ?_⟩
  · rintro i hi (e | e)
    · exact .inl e
    · rcases h.lie with hl | ⟨g, hg, hl⟩
      · exact .inr (e.trans hl)
      · rw [hl] at e; cases e; omega
  · rcases k.lie with kl | ⟨g, hg, kl⟩
    · rcases h.lie with hl | ⟨g, hg, hl⟩
      · exact .inl (kl.trans hl)
      · exact .inr ⟨g, hg, kl.trans hl⟩
    · exact .inr ⟨g, Nat.le_trans h.kp.size hg, kl⟩
theorem Fq.set {p : Nat} {v v' : Value} {w w' : World} (h : Fq p v w w' v') (o : Nat) (u : Value) : Fq p v w (w'.setCell ⟨p, o, none⟩ u) v' :=
  h.trans (Fq.of_kp ((Kp.refl _ _).andSet _ _ (.inr (.inl rfl))))
theorem Fq.drew {p : Nat} {v v' : Value} {w w' : World} (h : Fq p v w w' v') : Fq p v w w'.drew v' := ⟨h.kp.drew, h.lie⟩

/-- the entry at a place, in memory -/
theorem hrow_at {w : World} {B : Nat} {v : Value} {H : List Hg} (h : w.ownsRow B 120 4 v H.length (hcells H)) {i : Nat} {g : Hg} (hi : H[i]? = some g) : ∃ r cap, v = .slice (some ⟨r, 0, none⟩) H.length cap ∧ w.cell? ⟨r, i * 4, none⟩ = some (.int .i64 g.f) ∧ w.cell? ⟨r, i * 4 + 1, none⟩ = some (.int .i64 g.t) ∧ w.cell? ⟨r, i * 4 + 2, none⟩ = some g.d ∧ w.cell? ⟨r, i * 4 + 3, none⟩ = some (.bool g.gone) := by
  have hlt : i < H.length := (List.getElem?_eq_some_iff.1 hi).1
  rcases h.2 with ⟨_, h0⟩ | ⟨r, cap, cur, e, hB, hg, h1, h2, h3, h4⟩
  · omega
  · have key : ∀ j, j < 4 → cur[i * 4 + j]? = g.cells[j]? := by
      intro j hj
      have e1 := hcells_at H i g hi j hj
      rw [← h4, List.getElem?_take_of_lt (by omega)] at e1
      simpa using e1
    refine ⟨r, cap, e, ?_, ?_, ?_, ?_⟩
    · have := key 0 (by omega)
      simpa [World.cell?, hg, Hg.cells] using this
    · have := key 1 (by omega)
      simpa [World.cell?, hg, Hg.cells] using this
    · have := key 2 (by omega)
      simpa [World.cell?, hg, Hg.cells] using this
    · have := key 3 (by omega)
      simpa [World.cell?, hg, Hg.cells] using this
/-- one has gone -/
theorem Rn.mark {B p : Nat} {w : World} {there : Bool} {room : Int} {bs : Nat → Bool} {v : Value} {c : Ct} {H : List Hg} (h : Rn B w p there room bs v c H) {j r cap : Nat} (hj : j < H.length) (hv : v = .slice (some ⟨r, 0, none⟩) H.length cap) :
    Rn B (w.setCell ⟨r, j * 4 + 3, none⟩ (.bool true)) p there room bs v c (goneAt H j) ∧ Kp (fq p v) w (w.setCell ⟨r, j * 4 + 3, none⟩ (.bool true)) ∧ w.frozen? ⟨r, j * 4 + 3, none⟩ = false := by
  have hob : v.ownBlock = some r := by rw [hv]; rfl
  have k : Kp (fun k => k = r) w (w.setCell ⟨r, j * 4 + 3, none⟩ (.bool true)) := Kp.setCell w ⟨r, j * 4 + 3, none⟩ _
  obtain ⟨cu, hb, hc⟩ := h.blk
  have hne := h.ne_own hob
  rcases h.own.2 with ⟨e, h0⟩ | ⟨g, cap', cur, e, hB, hg, h1, h2, h3, h4⟩
  · rw [hv] at e; cases e
  · rw [hv] at e
    simp only [Value.slice.injEq, Option.some.injEq, Addr.mk.injEq, and_true, true_and] at e
    obtain ⟨rfl, rfl⟩ := e
    refine ⟨⟨⟨cu, (k.block p (blk_lt hb) (fun e => hne e.symm)).trans hb, hc⟩, ?_, ?_, h.hb⟩, k.mono (fun i _ e => .inr (by rw [hob, e])), free3 hg _⟩
    · rw [goneAt_length]
      refine ⟨by rw [hcells_length, goneAt_length], .inr ⟨r, cap, cur.setIfInBounds (j * 4 + 3) (.bool true), hv, hB, set3 hg _ _, h1, h2, by simpa using h3, ?_⟩⟩
      rw [hcells_gone H j hj, ← h4, Array.toList_setIfInBounds, List.take_set]
    · intro g hg'
      unfold goneAt at hg'
      obtain ⟨i, hi⟩ := List.getElem?_of_mem hg'
      rw [List.getElem?_modify] at hi
      obtain ⟨y, hy, rfl⟩ := Option.map_eq_some_iff.1 hi
      have hd := h.dat y (List.mem_of_getElem? hy)
      have hd' : Dg (w.setCell ⟨r, j * 4 + 3, none⟩ (.bool true)) B y.gm := hd.keep (fun i cur' hi' => k.block i (blk_lt hi') (fun e => h.byte hi' (.inr (by rw [hob, e]))))
      split
      · exact hd'
      · exact hd'
end Go.Proofs.Ythajboipnjjgfaa.Ly
