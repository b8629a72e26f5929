import Derived.Test.YtchealdgncgjoaaTrA
import Derived.Test.YtchealdgncgjoaaRows
import Derived.WalkKit
import Derived.ProofKit
import Derived.Below
import Derived.Laws.AppendOwn
import Derived.Maps.AppendAt
import Derived.Maps.OwnSet
import Derived.Maps.RangeWalk
import Derived.OwnWalk
import Derived.DeepKeys4
namespace Go.Proofs.Ytchealdgncgjoaa.St
set_option linter.unusedVariables false
set_option linter.unusedSimpArgs false
section
variable {α : Type}
theorem cut_c (c : α → Int) : ∀ xs : List α, xs.Pairwise (fun a b => 0 ≤ c b → 0 < c a) →
    ∃ A B, xs = A ++ B ∧ A.length = xs.countP (fun a => decide (0 < c a)) ∧ (∀ a ∈ A, 0 < c a) ∧ (∀ b ∈ B, c b ≤ 0) ∧ (∀ b ∈ B.tail, c b < 0)
  | [], _ => ⟨[], [], rfl, rfl, by simp, by simp, by simp⟩
  | x :: r, h => by
    rw [List.pairwise_cons] at h
    obtain ⟨A, B, e, e1, e2, e3, e4⟩ := cut_c c r h.2
    by_cases hx : 0 < c x
    · refine ⟨x :: A, B, by rw [e]; rfl, ?_, ?_, e3, e4⟩
      · rw [List.countP_cons]; simp [e1, hx]
      · intro a ha
        rcases List.mem_cons.1 ha with rfl | ha
        · exact hx
        · exact e2 a ha
    · have r0 : ∀ a ∈ r, c a < 0 := fun a ha => by
        rcases Int.lt_or_le (c a) 0 with h1 | h1
        · exact h1
        · exact (hx (h.1 a ha h1)).elim
      refine ⟨[], x :: r, rfl, ?_, by simp, ?_, ?_⟩
      · symm
        rw [List.length_nil, List.countP_eq_zero]
        intro a ha
        rcases List.mem_cons.1 ha with rfl | ha
        · simpa using hx
        · have := r0 a ha; simp; omega
      · intro a ha
        rcases List.mem_cons.1 ha with rfl | ha
        · omega
        · have := r0 a ha; omega
      · exact fun a ha => r0 a ha
end

/-- an order: transitive, and turned round when its arguments are -/
structure OrdL {κ : Type} (o : κ → κ → Int) : Prop where
  anti : ∀ a b, o a b < 0 ↔ 0 < o b a
  tr : ∀ a b c, o a b < 0 → o b c ≤ 0 → o a c < 0
  tr' : ∀ a b c, o a b ≤ 0 → o b c < 0 → o a c < 0
section
variable {κ ν : Type} {o : κ → κ → Int}
theorem OrdL.zero (h : OrdL o) (a : κ) : o a a = 0 := by
  have := h.anti a a; omega
theorem OrdL.sym0 (h : OrdL o) {a b : κ} : o a b = 0 ↔ o b a = 0 := by
  have h1 := h.anti a b
  have h2 := h.anti b a
  omega
def Srt (o : κ → κ → Int) (xs : List (κ × ν)) : Prop := xs.Pairwise (fun a b => o a.1 b.1 < 0)
/-- on which side of a pair a key is -/
abbrev side (o : κ → κ → Int) (k : κ) (p : κ × ν) : Int := o k p.1
theorem Srt.c {xs : List (κ × ν)} (h : Srt o xs) (ho : OrdL o) (k : κ) : xs.Pairwise (fun a b => 0 ≤ side o k b → 0 < side o k a) := by
  refine List.Pairwise.imp ?_ h
  intro a b hab hk
  simp only [side] at *
  have h1 := ho.anti k b.1
  have h2 := ho.anti b.1 k
  have h3 := ho.tr a.1 b.1 k hab (by omega)
  exact (ho.anti a.1 k).1 h3
theorem Srt.ins {xs : List (κ × ν)} (h : Srt o xs) (ho : OrdL o) (k : κ) (v : ν) (i : Nat) (hi : i = xs.countP (fun a => decide (0 < side o k a))) (hn : xs.any (fun a => decide (side o k a = 0)) = false) : Srt o (xs.take i ++ (k, v) :: xs.drop i) := by
  obtain ⟨A, B, e, e1, e2, e3, e4⟩ := cut_c _ xs (h.c ho k)
  rw [← hi] at e1
  rw [List.any_eq_false] at hn
  have t : xs.take i = A := by rw [e, ← e1]; simp
  have d : xs.drop i = B := by rw [e, ← e1]; simp
  rw [t, d]
  rw [e] at h
  unfold Srt at *
  rw [List.pairwise_append] at h
  obtain ⟨hA, hB, hAB⟩ := h
  rw [List.pairwise_append]
  refine ⟨hA, ?_, ?_⟩
  · rw [List.pairwise_cons]
    refine ⟨fun b hb => ?_, hB⟩
    have := e3 b hb
    have := hn b (by rw [e]; simp [hb])
    simp only [side, decide_eq_true_eq] at *
    show o k b.1 < 0
    omega
  · intro a ha b hb
    rcases List.mem_cons.1 hb with rfl | hb
    · exact (ho.anti _ _).2 (e2 a ha)
    · exact hAB a ha b hb
theorem Srt.sub {xs ys : List (κ × ν)} (h : Srt o xs) (hs : ys.Sublist xs) : Srt o ys := List.Pairwise.sublist hs h
theorem Srt.erase {xs : List (κ × ν)} (h : Srt o xs) (i : Nat) : Srt o (xs.eraseIdx i) := h.sub (List.eraseIdx_sublist _ _)
theorem map_modify {β : Type} (g : κ × ν → β) (f : κ × ν → κ × ν) (hf : ∀ p, g (f p) = g p) : ∀ (xs : List (κ × ν)) (i : Nat), (xs.modify i f).map g = xs.map g
  | [], i => by simp
  | a :: xs, 0 => by simp [hf]
  | a :: xs, i + 1 => by simp; exact map_modify g f hf xs i
theorem Srt.keys {xs ys : List (κ × ν)} (h : Srt o xs) (e : ys.map Prod.fst = xs.map Prod.fst) : Srt o ys := by
  have h1 : (xs.map Prod.fst).Pairwise (fun a b => o a b < 0) := List.pairwise_map.2 h
  rw [← e] at h1
  exact List.pairwise_map.1 h1
theorem Srt.rep {xs : List (κ × ν)} (h : Srt o xs) (i : Nat) (v : ν) : Srt o (xs.modify i (fun p => (p.1, v))) := h.keys (map_modify Prod.fst (fun p => (p.1, v)) (fun _ => rfl) xs i)
/-- the place of a key that is there -/
theorem Srt.place {xs : List (κ × ν)} (h : Srt o xs) (ho : OrdL o) {k : κ} {p : κ × ν} {i : Nat} (hp : xs[i]? = some p) (hk : o k p.1 = 0) :
    xs.countP (fun a => decide (0 < side o k a)) = i ∧ xs.any (fun a => decide (side o k a = 0)) = true := by
  have hm : p ∈ xs := List.mem_of_getElem? hp
  refine ⟨?_, List.any_eq_true.2 ⟨p, hm, by simpa [side] using hk⟩⟩
  obtain ⟨A, B, e, e1, e2, e3, e4⟩ := cut_c _ xs (h.c ho k)
  rw [← e1]
  have hi : i < xs.length := (List.getElem?_eq_some_iff.1 hp).1
  rcases Nat.lt_trichotomy i A.length with hlt | heq | hgt
  · rw [e, List.getElem?_append_left hlt] at hp
    have := e2 p (List.mem_of_getElem? hp)
    simp only [side] at this; omega
  · exact heq.symm
  · rw [e, List.getElem?_append_right (by omega)] at hp
    have : p ∈ B.tail := by
      cases B with
      | nil => simp at hp
      | cons b B =>
        obtain ⟨j, hj⟩ : ∃ j, i - A.length = j + 1 := ⟨i - A.length - 1, by omega⟩
        rw [hj] at hp
        exact List.mem_of_getElem? (by simpa using hp)
    have := e4 p this
    simp only [side] at this; omega
theorem Srt.at {xs : List (κ × ν)} (h : Srt o xs) (ho : OrdL o) {k : κ} (ht : xs.any (fun a => decide (side o k a = 0)) = true) :
    ∃ p, xs[xs.countP (fun a => decide (0 < side o k a))]? = some p ∧ o k p.1 = 0 := by
  obtain ⟨p, hp, hk⟩ := List.any_eq_true.1 ht
  obtain ⟨i, hi⟩ := List.mem_iff_getElem?.1 hp
  have hk : o k p.1 = 0 := by simpa [side] using hk
  obtain ⟨h1, h2⟩ := h.place ho hi hk
  exact ⟨p, by rw [h1]; exact hi, hk⟩
end
/-- cmp.Compare of numbers -/
def cmpI (a b : Int) : Int := if a < b then -1 else if b < a then 1 else 0
theorem cmpI_ord : OrdL cmpI := by
  refine ⟨fun a b => ?_, fun a b c => ?_, fun a b c => ?_⟩ <;> (simp only [cmpI]; repeat' split) <;> omega
end Go.Proofs.Ytchealdgncgjoaa.St
namespace Go.Proofs.Ytchealdgncgjoaa.St
open Go.RowKit
set_option linter.unusedVariables false

theorem hide {p : Prop} (h : p) : Hid p := h

/-- nothing has turned but blocks of S, and new blocks. -/
structure Kp (S : Nat → Prop) (w w' : World) : Prop where
  os : w'.os = w.os
  tape : w'.tape = w.tape
  output : w'.output = w.output
  size : w.heap.size ≤ w'.heap.size
  block : ∀ k, k < w.heap.size → ¬ S k → w'.heap[k]? = w.heap[k]?
def Nu : Nat → Prop := fun _ => False

theorem Kp.refl (S : Nat → Prop) (w : World) : Kp S w w := ⟨rfl, rfl, rfl, Nat.le_refl _, fun _ _ _ => rfl⟩
theorem Kp.trans {S T : Nat → Prop} {a b c : World} (h : Kp S a b) (k : Kp T b c) (hT : ∀ i, i < a.heap.size → T i → S i) : Kp S a c :=
  ⟨k.os.trans h.os, k.tape.trans h.tape, k.output.trans h.output, Nat.le_trans h.size k.size,
    fun i hi hS => (k.block i (Nat.lt_of_lt_of_le hi h.size) (fun ht => hS (hT i hi ht))).trans (h.block i hi hS)⟩
theorem Kp.andNu {S : Nat → Prop} {a b c : World} (h : Kp S a b) (k : Kp Nu b c) : Kp S a c := h.trans k (fun _ _ e => e.elim)
theorem Kp.of_grown {w w' : World} {row : Option Nat} (h : w.grownBy w' row) : Kp (fun k => some k = row) w w' :=
  ⟨h.os, h.tape, h.output, h.size, fun k hk hn => h.block k hk hn⟩
theorem Kp.mono {S T : Nat → Prop} {w w' : World} (h : Kp S w w') (hT : ∀ i, i < w.heap.size → S i → T i) : Kp T w w' :=
  ⟨h.os, h.tape, h.output, h.size, fun k hk hn => h.block k hk (fun hs => hn (hT k hk hs))⟩
theorem Kp.drew {S : Nat → Prop} {a w : World} (h : Kp S a w) : Kp S a w.drew := ⟨h.os, h.tape, h.output, h.size, h.block⟩
theorem Kp.alloc (w : World) (o : Obj) (S : Nat → Prop) : Kp S w (w.alloc o) := ⟨rfl, rfl, rfl, by simp, fun k hk _ => Below.heap_alloc w o k hk⟩
theorem Kp.andAlloc {S : Nat → Prop} {w w1 : World} (h : Kp S w w1) (o : Obj) : Kp S w (w1.alloc o) := h.trans (Kp.alloc w1 o Nu) (fun _ _ h => h.elim)
theorem Kp.setCell (w : World) (a : Addr) (u : Value) : Kp (fun k => k = a.block) w (w.setCell a u) :=
  ⟨rfl, rfl, rfl, by simp [World.setCell], fun k _ hn => Below.heap_setCell w a u k hn⟩
theorem Kp.andSet {S : Nat → Prop} {w w1 : World} (h : Kp S w w1) (a : Addr) (u : Value) (ha : w.heap.size ≤ a.block ∨ S a.block) : Kp S w (w1.setCell a u) :=
  h.trans (Kp.setCell w1 a u) (fun i hi e => by have e : i = a.block := e; subst e; rcases ha with h | h; · omega
                                                · exact h)
theorem Kp.below {S : Nat → Prop} {w w' : World} (h : Kp S w w') (B : Nat) (hB : B ≤ w.heap.size) (hS : ∀ k, S k → B ≤ k) : Below B w w' :=
  ⟨h.os, h.tape, h.output, h.size, fun k hk => h.block k (by omega) (fun hs => by have := hS k hs; omega)⟩
theorem Kp.toBelow {w w' : World} (h : Kp Nu w w') : Below w.heap.size w w' := ⟨h.os, h.tape, h.output, h.size, fun k hk => h.block k hk (fun h => h)⟩
theorem Kp.of_below {w w' : World} (h : Below w.heap.size w w') : Kp Nu w w' := ⟨h.os, h.tape, h.output, h.size, fun k hk _ => h.block k hk⟩

theorem free3 {w : World} {b : Nat} {c : Array Value} {t : TypeId} (h : w.heap[b]? = some (.cells c t (0, 0))) (o : Nat) : w.frozen? ⟨b, o, none⟩ = false := by
  simp [World.frozen?, h]
theorem set3 {w : World} {b : Nat} {c : Array Value} {t : TypeId} (h : w.heap[b]? = some (.cells c t (0, 0))) (o : Nat) (u : Value) :
    (w.setCell ⟨b, o, none⟩ u).heap[b]? = some (.cells (c.setIfInBounds o u) t (0, 0)) := by
  simp [World.setCell, Array.getElem?_modify, h]
theorem blk_lt {w : World} {b : Nat} {o : Obj} (h : w.heap[b]? = some o) : b < w.heap.size := by
  rcases Nat.lt_or_ge b w.heap.size with hlt | hge
  · exact hlt
  · rw [Array.getElem?_eq_none hge] at h; cases h

theorem add_block (a : Addr) (j : Nat) : (a.add j).block = a.block := by
  unfold Addr.add
  first | rfl | (split <;> rfl)
/-- a row of one's own stands while its block does -/
theorem own_keep {w w' : World} {B e size n : Nat} {v : Value} {xs : List Value} (h : w.ownsRow B e size v n xs) (hk : ∀ g, v.ownBlock = some g → w'.heap[g]? = w.heap[g]?) : w'.ownsRow B e size v n xs := by
  refine ⟨h.1, ?_⟩
  rcases h.2 with ⟨rfl, h0⟩ | ⟨g, cap, cur, rfl, hb', hg, h1, h2, h3, h4⟩
  · exact .inl ⟨rfl, h0⟩
  · exact .inr ⟨g, cap, cur, rfl, hb', (hk g rfl).trans hg, h1, h2, h3, h4⟩
theorem own_obj {w : World} {B e size n : Nat} {v : Value} {xs : List Value} (h : w.ownsRow B e size v n xs) {g : Nat} (hg : v.ownBlock = some g) : ∃ cur, w.heap[g]? = some (.cells cur e (0, 0)) := by
  rcases h.2 with ⟨rfl, h0⟩ | ⟨g', cap, cur, rfl, hb', hg', _⟩
  · cases hg
  · simp [Value.ownBlock] at hg; subst hg; exact ⟨cur, hg'⟩
theorem own_lt {w : World} {B e size n : Nat} {v : Value} {xs : List Value} (h : w.ownsRow B e size v n xs) {g : Nat} (hg : v.ownBlock = some g) : g < w.heap.size := by
  obtain ⟨cur, hc⟩ := own_obj h hg
  exact blk_lt hc
theorem own_slice {w : World} {B e size n : Nat} {v : Value} {xs : List Value} (h : w.ownsRow B e size v n xs) : ∃ ad cap, v = .slice ad n cap := by
  rcases h.2 with ⟨rfl, h0⟩ | ⟨g', cap, cur, rfl, hb', hg', _⟩
  · exact ⟨none, 0, by rw [h0]⟩
  · exact ⟨_, cap, rfl⟩

theorem new_at (w : World) (o : Obj) {W : World} (k : Kp Nu (w.alloc o) W) : W.heap[w.heap.size]? = some o := (k.block _ (by simp) (fun h => h)).trans (heap_alloc_new w o)

theorem cell3 {w : World} {b : Nat} {x y z : Value} {t : TypeId} (h : w.heap[b]? = some (.cells #[x, y, z] t (0, 0))) :
    w.cell? ⟨b, 0, none⟩ = some x ∧ w.cell? ⟨b, 1, none⟩ = some y ∧ w.cell? ⟨b, 2, none⟩ = some z := by
  refine ⟨?_, ?_, ?_⟩ <;> simp [World.cell?, h]
theorem cell1 {w : World} {b : Nat} {x : Value} {t : TypeId} (h : w.heap[b]? = some (.cells #[x] t (0, 0))) : w.cell? ⟨b, 0, none⟩ = some x := by simp [World.cell?, h]

theorem own_base {w : World} {base base' e size n : Nat} {v : Value} {l : List Value} (h : w.ownsRow base e size v n l) (hb : base' ≤ base) : w.ownsRow base' e size v n l := by
  obtain ⟨hl, ho⟩ := h
  refine ⟨hl, ?_⟩
  rcases ho with ho | ⟨g, cap, cur, e1, e2, e3⟩
  · exact .inl ho
  · exact .inr ⟨g, cap, cur, e1, Nat.le_trans hb e2, e3⟩
end Go.Proofs.Ytchealdgncgjoaa.St
namespace Go.Proofs.Ytchealdgncgjoaa.St
set_option linter.unusedVariables false
namespace T
variable {α β : Type}
/-- the same tree with other words in it -/
def map (f : α → β) : T α → T β
  | .nil => .nil
  | .node l p r => .node (l.map f) (f p) (r.map f)
theorem map_sz (f : α → β) : ∀ t : T α, (t.map f).sz = t.sz
  | .nil => rfl
  | .node l p r => by simp only [map, sz, map_sz f l, map_sz f r]
theorem map_ht (f : α → β) : ∀ t : T α, (t.map f).ht = t.ht
  | .nil => rfl
  | .node l p r => by simp only [map, ht, map_ht f l, map_ht f r]
theorem map_xs (f : α → β) : ∀ t : T α, (t.map f).xs = t.xs.map f
  | .nil => rfl
  | .node l p r => by simp only [map, xs, map_xs f l, map_xs f r, List.map_append, List.map_cons]
theorem map_mk (f : α → β) (p : α) (l r : T α) : (mk p l r).map f = mk (f p) (l.map f) (r.map f) := by
  unfold mk
  rw [map_ht, map_ht]
  split
  · cases l with
    | nil => rfl
    | node ll lp lr =>
      simp only [balL, map, map_ht]
      split
      · cases lr <;> rfl
      · rfl
  · split
    · cases r with
      | nil => rfl
      | node rl rp rr =>
        simp only [balR, map, map_ht]
        split
        · cases rl <;> rfl
        · rfl
    · rfl
theorem map_ins (f : α → β) : ∀ (t : T α) (i : Nat) (q : α), (t.ins i q).map f = (t.map f).ins i (f q)
  | .nil, i, q => rfl
  | .node l p r, i, q => by
    simp only [ins, map, map_sz]
    split
    · rw [map_mk, map_ins f l]
    · rw [map_mk, map_ins f r]
theorem map_rep (f : α → β) (g : α → α) (g' : β → β) (h : ∀ p, f (g p) = g' (f p)) : ∀ (t : T α) (i : Nat), (t.rep i g).map f = (t.map f).rep i g'
  | .nil, i => rfl
  | .node l p r, i => by
    simp only [rep, map, map_sz]
    split
    · simp only [map, map_rep f g g' h l]
    · split
      · simp only [map, map_rep f g g' h r]
      · simp only [map, h]
theorem map_hd (f : α → β) (t : T α) (d : α) : (t.map f).hd (f d) = f (t.hd d) := by
  unfold hd
  rw [map_xs]
  cases t.xs <;> rfl
theorem map_rem (f : α → β) : ∀ (t : T α) (i : Nat), (t.rem i).map f = (t.map f).rem i
  | .nil, i => by simp [rem, map]
  | .node l p .nil, i => by
    simp only [rem, map, map_sz]
    split
    · rw [map_mk, map_rem f l]; rfl
    · split
      · rw [map_mk]; rfl
      · rfl
  | .node l p (.node a q b), i => by
    have e : (T.node a q b).map f = .node (a.map f) (f q) (b.map f) := rfl
    have er := map_rem f (T.node a q b)
    simp only [map] at er ⊢
    unfold rem
    rw [map_sz]
    split
    · rw [map_mk, map_rem f l]
      rfl
    · split
      · rw [map_mk, er]
      · simp only [map_mk, er]
        rw [← map_hd f (T.node a q b) p]
        rfl
theorem map_fd (f : α → β) (c : α → Int) (c' : β → Int) (h : ∀ p, c' (f p) = c p) : ∀ t : T α, fd c' (t.map f) = fd c t
  | .nil => rfl
  | .node l p r => by simp only [fd, map, h, map_sz, map_fd f c c' h l, map_fd f c c' h r]
end T
end Go.Proofs.Ytchealdgncgjoaa.St
