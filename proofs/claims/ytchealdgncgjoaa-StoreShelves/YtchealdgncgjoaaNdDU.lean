import Derived.Test.YtchealdgncgjoaaTrA
import Derived.Test.YtchealdgncgjoaaRows
import Derived.WalkKit
import Derived.ProofKit
import Derived.Below
import Derived.Laws.AppendOwn
import Derived.Maps.AppendAt
import Derived.Maps.OwnSet
import Derived.Maps.RangeWalk
import Derived.OwnWalk
import Derived.DeepKeys4
import Derived.Deep.RegionHeld
import Derived.Deep.Draws
namespace Go.Proofs.Ytchealdgncgjoaa.St
set_option linter.unusedVariables false
set_option linter.unusedSimpArgs false
section
variable {α : Type}
theorem cut_c (c : α → Int) : ∀ xs : List α, xs.Pairwise (fun a b => 0 ≤ c b → 0 < c a) →
    ∃ A B, xs = A ++ B ∧ A.length = xs.countP (fun a => decide (0 < c a)) ∧ (∀ a ∈ A, 0 < c a) ∧ (∀ b ∈ B, c b ≤ 0) ∧ (∀ b ∈ B.tail, c b < 0)
  | [], _ => ⟨[], [], rfl, rfl, by simp, by simp, by simp⟩
  | x :: r, h => by
    rw [List.pairwise_cons] at h
    obtain ⟨A, B, e, e1, e2, e3, e4⟩ := cut_c c r h.2
    by_cases hx : 0 < c x
    · refine ⟨x :: A, B, by rw [e]; rfl, ?_, ?_, e3, e4⟩
      · rw [List.countP_cons]; simp [e1, hx]
      · intro a ha
        rcases List.mem_cons.1 ha with rfl | ha
        · exact hx
        · exact e2 a ha
    · have r0 : ∀ a ∈ r, c a < 0 := fun a ha => by
        rcases Int.lt_or_le (c a) 0 with h1 | h1
        · exact h1
        · exact (hx (h.1 a ha h1)).elim
      refine ⟨[], x :: r, rfl, ?_, by simp, ?_, ?_⟩
      · symm
        rw [List.length_nil, List.countP_eq_zero]
        intro a ha
        rcases List.mem_cons.1 ha with rfl | ha
        · simpa using hx
        · have := r0 a ha; simp; omega
      · intro a ha
        rcases List.mem_cons.1 ha with rfl | ha
        · omega
        · have := r0 a ha; omega
      · exact fun a ha => r0 a ha
end

/-- an order: transitive, and turned round when its arguments are -/
structure OrdL {κ : Type} (o : κ → κ → Int) : Prop where
  anti : ∀ a b, o a b < 0 ↔ 0 < o b a
  tr : ∀ a b c, o a b < 0 → o b c ≤ 0 → o a c < 0
  tr' : ∀ a b c, o a b ≤ 0 → o b c < 0 → o a c < 0
section
variable {κ ν : Type} {o : κ → κ → Int}
theorem OrdL.zero (h : OrdL o) (a : κ) : o a a = 0 := by
  have := h.anti a a; omega
theorem OrdL.sym0 (h : OrdL o) {a b : κ} : o a b = 0 ↔ o b a = 0 := by
  have h1 := h.anti a b
  have h2 := h.anti b a
  omega
def Srt (o : κ → κ → Int) (xs : List (κ × ν)) : Prop := xs.Pairwise (fun a b => o a.1 b.1 < 0)
/-- on which side of a pair a key is -/
abbrev side (o : κ → κ → Int) (k : κ) (p : κ × ν) : Int := o k p.1
theorem Srt.c {xs : List (κ × ν)} (h : Srt o xs) (ho : OrdL o) (k : κ) : xs.Pairwise (fun a b => 0 ≤ side o k b → 0 < side o k a) := by
  refine List.Pairwise.imp ?_ h
  intro a b hab hk
  simp only [side] at *
  have h1 := ho.anti k b.1
  have h2 := ho.anti b.1 k
  have h3 := ho.tr a.1 b.1 k hab (by omega)
  exact (ho.anti a.1 k).1 h3
theorem Srt.ins {xs : List (κ × ν)} (h : Srt o xs) (ho : OrdL o) (k : κ) (v : ν) (i : Nat) (hi : i = xs.countP (fun a => decide (0 < side o k a))) (hn : xs.any (fun a => decide (side o k a = 0)) = false) : Srt o (xs.take i ++ (k, v) :: xs.drop i) := by
  obtain ⟨A, B, e, e1, e2, e3, e4⟩ := cut_c _ xs (h.c ho k)
  rw [← hi] at e1
  rw [List.any_eq_false] at hn
  have t : xs.take i = A := by rw [e, ← e1]; simp
  have d : xs.drop i = B := by rw [e, ← e1]; simp
  rw [t, d]
  rw [e] at h
  unfold Srt at *
  rw [List.pairwise_append] at h
  obtain ⟨hA, hB, hAB⟩ := h
  rw [List.pairwise_append]
  refine ⟨hA, ?_, ?_⟩
  · rw [List.pairwise_cons]
    refine ⟨fun b hb => ?_, hB⟩
    have := e3 b hb
    have := hn b (by rw [e]; simp [hb])
    simp only [side, decide_eq_true_eq] at *
    show o k b.1 < 0
    omega
  · intro a ha b hb
    rcases List.mem_cons.1 hb with rfl | hb
    · exact (ho.anti _ _).2 (e2 a ha)
    · exact hAB a ha b hb
theorem Srt.sub {xs ys : List (κ × ν)} (h : Srt o xs) (hs : ys.Sublist xs) : Srt o ys := List.Pairwise.sublist hs h
theorem Srt.erase {xs : List (κ × ν)} (h : Srt o xs) (i : Nat) : Srt o (xs.eraseIdx i) := h.sub (List.eraseIdx_sublist _ _)
theorem map_modify {β : Type} (g : κ × ν → β) (f : κ × ν → κ × ν) (hf : ∀ p, g (f p) = g p) : ∀ (xs : List (κ × ν)) (i : Nat), (xs.modify i f).map g = xs.map g
  | [], i => by simp
  | a :: xs, 0 => by simp [hf]
  | a :: xs, i + 1 => by simp; exact map_modify g f hf xs i
theorem Srt.keys {xs ys : List (κ × ν)} (h : Srt o xs) (e : ys.map Prod.fst = xs.map Prod.fst) : Srt o ys := by
  have h1 : (xs.map Prod.fst).Pairwise (fun a b => o a b < 0) := List.pairwise_map.2 h
  rw [← e] at h1
  exact List.pairwise_map.1 h1
theorem Srt.rep {xs : List (κ × ν)} (h : Srt o xs) (i : Nat) (v : ν) : Srt o (xs.modify i (fun p => (p.1, v))) := h.keys (map_modify Prod.fst (fun p => (p.1, v)) (fun _ => rfl) xs i)
/-- the place of a key that is there -/
theorem Srt.place {xs : List (κ × ν)} (h : Srt o xs) (ho : OrdL o) {k : κ} {p : κ × ν} {i : Nat} (hp : xs[i]? = some p) (hk : o k p.1 = 0) :
    xs.countP (fun a => decide (0 < side o k a)) = i ∧ xs.any (fun a => decide (side o k a = 0)) = true := by
  have hm : p ∈ xs := List.mem_of_getElem? hp
  refine ⟨?_, List.any_eq_true.2 ⟨p, hm, by simpa [side] using hk⟩⟩
  obtain ⟨A, B, e, e1, e2, e3, e4⟩ := cut_c _ xs (h.c ho k)
  rw [← e1]
  have hi : i < xs.length := (List.getElem?_eq_some_iff.1 hp).1
  rcases Nat.lt_trichotomy i A.length with hlt | heq | hgt
  · rw [e, List.getElem?_append_left hlt] at hp
    have := e2 p (List.mem_of_getElem? hp)
    simp only [side] at this; omega
  · exact heq.symm
  · rw [e, List.getElem?_append_right (by omega)] at hp
    have : p ∈ B.tail := by
      cases B with
      | nil => simp at hp
      | cons b B =>
        obtain ⟨j, hj⟩ : ∃ j, i - A.length = j + 1 := ⟨i - A.length - 1, by omega⟩
        rw [hj] at hp
        exact List.mem_of_getElem? (by simpa using hp)
    have := e4 p this
    simp only [side] at this; omega
theorem Srt.at {xs : List (κ × ν)} (h : Srt o xs) (ho : OrdL o) {k : κ} (ht : xs.any (fun a => decide (side o k a = 0)) = true) :
    ∃ p, xs[xs.countP (fun a => decide (0 < side o k a))]? = some p ∧ o k p.1 = 0 := by
  obtain ⟨p, hp, hk⟩ := List.any_eq_true.1 ht
  obtain ⟨i, hi⟩ := List.mem_iff_getElem?.1 hp
  have hk : o k p.1 = 0 := by simpa [side] using hk
  obtain ⟨h1, h2⟩ := h.place ho hi hk
  exact ⟨p, by rw [h1]; exact hi, hk⟩
end
/-- cmp.Compare of numbers -/
def cmpI (a b : Int) : Int := if a < b then -1 else if b < a then 1 else 0
theorem cmpI_ord : OrdL cmpI := by
  refine ⟨fun a b => ?_, fun a b c => ?_, fun a b c => ?_⟩ <;> (simp only [cmpI]; repeat' split) <;> omega
end Go.Proofs.Ytchealdgncgjoaa.St
namespace Go.Proofs.Ytchealdgncgjoaa.St
open Go.RowKit
set_option linter.unusedVariables false

theorem hide {p : Prop} (h : p) : Hid p := h

/-- nothing has turned but blocks of S, and new blocks. -/
structure Kp (S : Nat → Prop) (w w' : World) : Prop where
  os : w'.os = w.os
  tape : w'.tape = w.tape
  output : w'.output = w.output
  size : w.heap.size ≤ w'.heap.size
  block : ∀ k, k < w.heap.size → ¬ S k → w'.heap[k]? = w.heap[k]?
def Nu : Nat → Prop := fun _ => False

theorem Kp.refl (S : Nat → Prop) (w : World) : Kp S w w := ⟨rfl, rfl, rfl, Nat.le_refl _, fun _ _ _ => rfl⟩
theorem Kp.trans {S T : Nat → Prop} {a b c : World} (h : Kp S a b) (k : Kp T b c) (hT : ∀ i, i < a.heap.size → T i → S i) : Kp S a c :=
  ⟨k.os.trans h.os, k.tape.trans h.tape, k.output.trans h.output, Nat.le_trans h.size k.size,
    fun i hi hS => (k.block i (Nat.lt_of_lt_of_le hi h.size) (fun ht => hS (hT i hi ht))).trans (h.block i hi hS)⟩
theorem Kp.andNu {S : Nat → Prop} {a b c : World} (h : Kp S a b) (k : Kp Nu b c) : Kp S a c := h.trans k (fun _ _ e => e.elim)
theorem Kp.of_grown {w w' : World} {row : Option Nat} (h : w.grownBy w' row) : Kp (fun k => some k = row) w w' :=
  ⟨h.os, h.tape, h.output, h.size, fun k hk hn => h.block k hk hn⟩
theorem Kp.mono {S T : Nat → Prop} {w w' : World} (h : Kp S w w') (hT : ∀ i, i < w.heap.size → S i → T i) : Kp T w w' :=
  ⟨h.os, h.tape, h.output, h.size, fun k hk hn => h.block k hk (fun hs => hn (hT k hk hs))⟩
theorem Kp.drew {S : Nat → Prop} {a w : World} (h : Kp S a w) : Kp S a w.drew := ⟨h.os, h.tape, h.output, h.size, h.block⟩
theorem Kp.alloc (w : World) (o : Obj) (S : Nat → Prop) : Kp S w (w.alloc o) := ⟨rfl, rfl, rfl, by simp, fun k hk _ => Below.heap_alloc w o k hk⟩
theorem Kp.andAlloc {S : Nat → Prop} {w w1 : World} (h : Kp S w w1) (o : Obj) : Kp S w (w1.alloc o) := h.trans (Kp.alloc w1 o Nu) (fun _ _ h => h.elim)
theorem Kp.setCell (w : World) (a : Addr) (u : Value) : Kp (fun k => k = a.block) w (w.setCell a u) :=
  ⟨rfl, rfl, rfl, by simp [World.setCell], fun k _ hn => Below.heap_setCell w a u k hn⟩
theorem Kp.andSet {S : Nat → Prop} {w w1 : World} (h : Kp S w w1) (a : Addr) (u : Value) (ha : w.heap.size ≤ a.block ∨ S a.block) : Kp S w (w1.setCell a u) :=
  h.trans (Kp.setCell w1 a u) (fun i hi e => by have e : i = a.block := e; subst e; rcases ha with h | h; · omega
                                                · exact h)
theorem Kp.below {S : Nat → Prop} {w w' : World} (h : Kp S w w') (B : Nat) (hB : B ≤ w.heap.size) (hS : ∀ k, S k → B ≤ k) : Below B w w' :=
  ⟨h.os, h.tape, h.output, h.size, fun k hk => h.block k (by omega) (fun hs => by have := hS k hs; omega)⟩
theorem Kp.toBelow {w w' : World} (h : Kp Nu w w') : Below w.heap.size w w' := ⟨h.os, h.tape, h.output, h.size, fun k hk => h.block k hk (fun h => h)⟩
theorem Kp.of_below {w w' : World} (h : Below w.heap.size w w') : Kp Nu w w' := ⟨h.os, h.tape, h.output, h.size, fun k hk _ => h.block k hk⟩

theorem free3 {w : World} {b : Nat} {c : Array Value} {t : TypeId} (h : w.heap[b]? = some (.cells c t (0, 0))) (o : Nat) : w.frozen? ⟨b, o, none⟩ = false := by
  simp [World.frozen?, h]
theorem set3 {w : World} {b : Nat} {c : Array Value} {t : TypeId} (h : w.heap[b]? = some (.cells c t (0, 0))) (o : Nat) (u : Value) :
    (w.setCell ⟨b, o, none⟩ u).heap[b]? = some (.cells (c.setIfInBounds o u) t (0, 0)) := by
  simp [World.setCell, Array.getElem?_modify, h]
theorem blk_lt {w : World} {b : Nat} {o : Obj} (h : w.heap[b]? = some o) : b < w.heap.size := by
  rcases Nat.lt_or_ge b w.heap.size with hlt | hge
  · exact hlt
  · rw [Array.getElem?_eq_none hge] at h; cases h

theorem add_block (a : Addr) (j : Nat) : (a.add j).block = a.block := by
  unfold Addr.add
  first | rfl | (split <;> rfl)
/-- a row of one's own stands while its block does -/
theorem own_keep {w w' : World} {B e size n : Nat} {v : Value} {xs : List Value} (h : w.ownsRow B e size v n xs) (hk : ∀ g, v.ownBlock = some g → w'.heap[g]? = w.heap[g]?) : w'.ownsRow B e size v n xs := by
  refine ⟨h.1, ?_⟩
  rcases h.2 with ⟨rfl, h0⟩ | ⟨g, cap, cur, rfl, hb', hg, h1, h2, h3, h4⟩
  · exact .inl ⟨rfl, h0⟩
  · exact .inr ⟨g, cap, cur, rfl, hb', (hk g rfl).trans hg, h1, h2, h3, h4⟩
theorem own_obj {w : World} {B e size n : Nat} {v : Value} {xs : List Value} (h : w.ownsRow B e size v n xs) {g : Nat} (hg : v.ownBlock = some g) : ∃ cur, w.heap[g]? = some (.cells cur e (0, 0)) := by
  rcases h.2 with ⟨rfl, h0⟩ | ⟨g', cap, cur, rfl, hb', hg', _⟩
  · cases hg
  · simp [Value.ownBlock] at hg; subst hg; exact ⟨cur, hg'⟩
theorem own_lt {w : World} {B e size n : Nat} {v : Value} {xs : List Value} (h : w.ownsRow B e size v n xs) {g : Nat} (hg : v.ownBlock = some g) : g < w.heap.size := by
  obtain ⟨cur, hc⟩ := own_obj h hg
  exact blk_lt hc
theorem own_slice {w : World} {B e size n : Nat} {v : Value} {xs : List Value} (h : w.ownsRow B e size v n xs) : ∃ ad cap, v = .slice ad n cap := by
  rcases h.2 with ⟨rfl, h0⟩ | ⟨g', cap, cur, rfl, hb', hg', _⟩
  · exact ⟨none, 0, by rw [h0]⟩
  · exact ⟨_, cap, rfl⟩

theorem new_at (w : World) (o : Obj) {W : World} (k : Kp Nu (w.alloc o) W) : W.heap[w.heap.size]? = some o := (k.block _ (by simp) (fun h => h)).trans (heap_alloc_new w o)

theorem cell3 {w : World} {b : Nat} {x y z : Value} {t : TypeId} (h : w.heap[b]? = some (.cells #[x, y, z] t (0, 0))) :
    w.cell? ⟨b, 0, none⟩ = some x ∧ w.cell? ⟨b, 1, none⟩ = some y ∧ w.cell? ⟨b, 2, none⟩ = some z := by
  refine ⟨?_, ?_, ?_⟩ <;> simp [World.cell?, h]
theorem cell1 {w : World} {b : Nat} {x : Value} {t : TypeId} (h : w.heap[b]? = some (.cells #[x] t (0, 0))) : w.cell? ⟨b, 0, none⟩ = some x := by simp [World.cell?, h]

theorem own_base {w : World} {base base' e size n : Nat} {v : Value} {l : List Value} (h : w.ownsRow base e size v n l) (hb : base' ≤ base) : w.ownsRow base' e size v n l := by
  obtain ⟨hl, ho⟩ := h
  refine ⟨hl, ?_⟩
  rcases ho with ho | ⟨g, cap, cur, e1, e2, e3⟩
  · exact .inl ho
  · exact .inr ⟨g, cap, cur, e1, Nat.le_trans hb e2, e3⟩
end Go.Proofs.Ytchealdgncgjoaa.St
namespace Go.Proofs.Ytchealdgncgjoaa.St
/-- a value that is a list of bytes: where it lies, its length, its room -/
structure Sv where
  a : Option Addr
  n : Nat
  c : Nat
deriving Inhabited
end Go.Proofs.Ytchealdgncgjoaa.St
namespace Go.Proofs.Ytchealdgncgjoaa.StU
open Go.RowKit Go.Proofs.Ytchealdgncgjoaa.St
set_option linter.unusedVariables false

/-- a tree in memory; its nodes are never written to -/
def Tr (w : World) : T (Int × Sv) → Option Addr → Prop
  | .nil, a => a = none
  | .node l p r, a => ∃ b al ar, a = some ⟨b, 0, none⟩ ∧ w.heap[b]? = some (.cells #[.int .u64 (p.1), .slice (p.2).a (p.2).n (p.2).c, .pointer al, .pointer ar, .int .i64 ((l.sz + 1 + r.sz : Nat) : Int), .int .i64 ((max l.ht r.ht + 1 : Nat) : Int)] 211 (0, 0)) ∧ Tr w l al ∧ Tr w r ar
/-- the nodes are as they were -/
def Kn (w w' : World) : Prop := ∀ (b : Nat) (c : Array Value), w.heap[b]? = some (.cells c 211 (0, 0)) → w'.heap[b]? = some (.cells c 211 (0, 0))
theorem Kn.refl (w : World) : Kn w w := fun _ _ h => h
theorem Kn.trans {a b c : World} (h : Kn a b) (k : Kn b c) : Kn a c := fun i c e => k i c (h i c e)
theorem Kn.nu {w w' : World} (k : Kp Nu w w') : Kn w w' := fun b c h => (k.block b (blk_lt h) (fun h => h)).trans h
theorem Kn.of {S : Nat → Prop} {w w' : World} (k : Kp S w w') (hS : ∀ b c, w.heap[b]? = some (.cells c 211 (0, 0)) → ¬ S b) : Kn w w' := fun b c h => (k.block b (blk_lt h) (hS b c h)).trans h
theorem Tr.keep {w w' : World} (k : Kn w w') : ∀ {t : T (Int × Sv)} {a : Option Addr}, Tr w t a → Tr w' t a
  | .nil, _, h => h
  | .node l p r, _, ⟨b, al, ar, e, hb, hl, hr⟩ => ⟨b, al, ar, e, k b _ hb, hl.keep k, hr.keep k⟩
theorem Tr.nu {w w' : World} {t : T (Int × Sv)} {a : Option Addr} (h : Tr w t a) (k : Kp Nu w w') : Tr w' t a := h.keep (Kn.nu k)
/-- a node with this pair -/
def Nd (w : World) (p : Int × Sv) (a : Option Addr) : Prop := ∃ b x2 x3 x4 x5, a = some ⟨b, 0, none⟩ ∧ w.heap[b]? = some (.cells #[.int .u64 (p.1), .slice (p.2).a (p.2).n (p.2).c, x2, x3, x4, x5] 211 (0, 0))
theorem Tr.nd {w : World} {l r : T (Int × Sv)} {p : Int × Sv} {a : Option Addr} (h : Tr w (.node l p r) a) : Nd w p a := by
  obtain ⟨b, al, ar, e, hb, _⟩ := h
  exact ⟨b, _, _, _, _, e, hb⟩
theorem Nd.keep {w w' : World} {p : Int × Sv} {a : Option Addr} (h : Nd w p a) (k : Kn w w') : Nd w' p a := by
  obtain ⟨b, x2, x3, x4, x5, e, hb⟩ := h
  exact ⟨b, x2, x3, x4, x5, e, k b _ hb⟩
theorem cell6 {w : World} {b : Nat} {x0 x1 x2 x3 x4 x5 : Value} {t : TypeId} (h : w.heap[b]? = some (.cells #[x0, x1, x2, x3, x4, x5] t (0, 0))) :
    w.cell? ⟨b, 0, none⟩ = some x0 ∧ w.cell? ⟨b, 1, none⟩ = some x1 ∧ w.cell? ⟨b, 2, none⟩ = some x2 ∧ w.cell? ⟨b, 3, none⟩ = some x3 ∧ w.cell? ⟨b, 4, none⟩ = some x4 ∧ w.cell? ⟨b, 5, none⟩ = some x5 := by
  refine ⟨?_, ?_, ?_, ?_, ?_, ?_⟩ <;> simp [World.cell?, h]

set_option maxHeartbeats 400000 in
theorem count_any {w : World} {t : T (Int × Sv)} {a : Option Addr} (h : Tr w t a) : Calls Try.prog 177 #[.pointer a] w fun e w' => e = .returned (.int .i64 (t.sz : Int)) ∧ w' = w := by
  cases t with
  | nil =>
    cases (show a = none from h)
    go_enter Try.func177, Try.ntmps177
    go_wp2
    go_ret
    exact ⟨rfl, rfl⟩
  | node l p r =>
    obtain ⟨b, al, ar, rfl, hb, _, _⟩ := h
    obtain ⟨c0, c1, c2, c3, c4, c5⟩ := cell6 hb
    have e : ((l.sz + 1 + r.sz : Nat) : Int) = ((T.node l p r).sz : Int) := rfl
    rw [e] at c4
    generalize ((T.node l p r).sz : Int) = z at *
    clear hb e c0 c1 c2 c3 c5
    go_enter Try.func177, Try.ntmps177
    go_wp2
    go_ret
    exact ⟨rfl, rfl⟩
set_option maxHeartbeats 400000 in
theorem high_any {w : World} {t : T (Int × Sv)} {a : Option Addr} (h : Tr w t a) : Calls Try.prog 205 #[.pointer a] w fun e w' => e = .returned (.int .i64 (t.ht : Int)) ∧ w' = w := by
  cases t with
  | nil =>
    cases (show a = none from h)
    go_enter Try.func205, Try.ntmps205
    go_wp2
    go_ret
    exact ⟨rfl, rfl⟩
  | node l p r =>
    obtain ⟨b, al, ar, rfl, hb, _, _⟩ := h
    obtain ⟨c0, c1, c2, c3, c4, c5⟩ := cell6 hb
    have e : ((max l.ht r.ht + 1 : Nat) : Int) = ((T.node l p r).ht : Int) := rfl
    rw [e] at c5
    generalize ((T.node l p r).ht : Int) = z at *
    clear hb e c0 c1 c2 c3 c4
    go_enter Try.func205, Try.ntmps205
    go_wp2
    go_ret
    exact ⟨rfl, rfl⟩
end Go.Proofs.Ytchealdgncgjoaa.StU
namespace Go.Proofs.Ytchealdgncgjoaa.StU
open Go.RowKit Go.Proofs.Ytchealdgncgjoaa.St
set_option linter.unusedVariables false

theorem ht_sz : ∀ t : T (Int × Sv), t.ht ≤ t.sz
  | .nil => Nat.le_refl _
  | .node l p r => by
    have := ht_sz l
    have := ht_sz r
    simp only [T.ht, T.sz]; omega

set_option maxHeartbeats 2000000 in
theorem over_any {w : World} {l r : T (Int × Sv)} {p : Int × Sv} {a al ar : Option Addr} (hn : Nd w p a) (hl : Tr w l al) (hr : Tr w r ar) (hs : l.sz + r.sz < 2 ^ 62) :
    Calls Try.prog 197 #[.pointer a, .pointer al, .pointer ar] w fun e w' => ∃ a', e = .returned (.pointer a') ∧ Tr w' (.node l p r) a' ∧ Kp Nu w w' := by
  obtain ⟨b, x2, x3, x4, x5, rfl, hb⟩ := hn
  have HS : ∀ W, Kp Nu w W → W.cell? ⟨b, 0, none⟩ = some (.int .u64 (p.1)) ∧ W.cell? ⟨b, 1, none⟩ = some (.slice (p.2).a (p.2).n (p.2).c) := fun W k => by
    obtain ⟨c0, c1, _⟩ := cell6 ((k.block _ (blk_lt hb) (fun h => h)).trans hb)
    exact ⟨c0, c1⟩
  have CL : ∀ W, Kp Nu w W → Calls Try.prog 177 #[.pointer al] W fun e w' => e = .returned (.int .i64 (l.sz : Int)) ∧ w' = W := fun W k => count_any (hl.nu k)
  have CR : ∀ W, Kp Nu w W → Calls Try.prog 177 #[.pointer ar] W fun e w' => e = .returned (.int .i64 (r.sz : Int)) ∧ w' = W := fun W k => count_any (hr.nu k)
  have HL : ∀ W, Kp Nu w W → Calls Try.prog 205 #[.pointer al] W fun e w' => e = .returned (.int .i64 (l.ht : Int)) ∧ w' = W := fun W k => high_any (hl.nu k)
  have HR : ∀ W, Kp Nu w W → Calls Try.prog 205 #[.pointer ar] W fun e w' => e = .returned (.int .i64 (r.ht : Int)) ∧ w' = W := fun W k => high_any (hr.nu k)
  have e1 := ht_sz l
  have e2 := ht_sz r
  obtain ⟨c0, c1⟩ := HS w (Kp.refl _ _)
  have FIN : Hid (∀ x y : Int, x = (l.sz : Int) + 1 + (r.sz : Int) → y = ((max l.ht r.ht : Nat) : Int) + 1 → ∃ a', Ending.returned (.pointer (some ⟨w.heap.size, 0, none⟩)) = Ending.returned (.pointer a') ∧ Tr (w.alloc (.cells #[.int .u64 (p.1), .slice (p.2).a (p.2).n (p.2).c, .pointer al, .pointer ar, .int .i64 x, .int .i64 y] 211)).drew (.node l p r) a' ∧ Kp Nu w (w.alloc (.cells #[.int .u64 (p.1), .slice (p.2).a (p.2).n (p.2).c, .pointer al, .pointer ar, .int .i64 x, .int .i64 y] 211)).drew) := fun x y hx hy => by
    have k : Kp Nu w (w.alloc (.cells #[.int .u64 (p.1), .slice (p.2).a (p.2).n (p.2).c, .pointer al, .pointer ar, .int .i64 x, .int .i64 y] 211)).drew := (Kp.alloc w _ Nu).drew
    refine ⟨_, rfl, ⟨w.heap.size, al, ar, rfl, ?_, hl.nu k, hr.nu k⟩, k⟩
    subst hx hy
    exact heap_alloc_new w _
  generalize hL : l.sz = L at *
  generalize hR : r.sz = R at *
  generalize hHL : l.ht = A at *
  generalize hHR : r.ht = B at *
  have HH := hide (And.intro hL (And.intro hR (And.intro hHL hHR)))
  clear hL hR hHL hHR hb hl hr
  have a1 : IntKind.i64.wrap ((L : Int) + 1) = (L : Int) + 1 := by rw [IntKind.wrap_i64]; omega
  have a2 : IntKind.i64.wrap ((L : Int) + 1 + (R : Int)) = (L : Int) + 1 + (R : Int) := by rw [IntKind.wrap_i64]; omega
  have a3 : IntKind.i64.wrap ((A : Int) + 1) = (A : Int) + 1 := by rw [IntKind.wrap_i64]; omega
  have a4 : IntKind.i64.wrap ((B : Int) + 1) = (B : Int) + 1 := by rw [IntKind.wrap_i64]; omega
  go_enter Try.func197, Try.ntmps197
  go_wp2_with fail
  go_region_held (fun W => W.cell? ⟨b, 0, none⟩ = some (.int .u64 (p.1)) ∧ W.cell? ⟨b, 1, none⟩ = some (.slice (p.2).a (p.2).n (p.2).c)) (first | (refine HS _ ?_; repeat (first | assumption | exact Kp.refl _ _ | apply Kp.andAlloc | apply Kp.drew)))
    (first
      | (go_at_call_of 177 al; refine (CL _ ?_).mono ?_; (repeat (first | assumption | exact Kp.refl _ _ | apply Kp.andAlloc | apply Kp.drew)); rintro e w' ⟨rfl, rfl⟩)
      | (go_at_call_of 177 ar; refine (CR _ ?_).mono ?_; (repeat (first | assumption | exact Kp.refl _ _ | apply Kp.andAlloc | apply Kp.drew)); rintro e w' ⟨rfl, rfl⟩)
      | (go_at_call_of 205 al; refine (HL _ ?_).mono ?_; (repeat (first | assumption | exact Kp.refl _ _ | apply Kp.andAlloc | apply Kp.drew)); rintro e w' ⟨rfl, rfl⟩)
      | (go_at_call_of 205 ar; refine (HR _ ?_).mono ?_; (repeat (first | assumption | exact Kp.refl _ _ | apply Kp.andAlloc | apply Kp.drew)); rintro e w' ⟨rfl, rfl⟩))
  all_goals go_wp2
  all_goals go_ret
  all_goals refine FIN.out _ _ ?_ ?_
  all_goals (first | rfl | omega)
end Go.Proofs.Ytchealdgncgjoaa.StU
namespace Go.Proofs.Ytchealdgncgjoaa.StU
open Go.RowKit Go.Proofs.Ytchealdgncgjoaa.St
set_option linter.unusedVariables false

theorem kp_drewN (w : World) (n : Nat) : Kp Nu w (w.drewN n) := ⟨rfl, rfl, rfl, Nat.le_refl _, fun _ _ _ => rfl⟩
section
variable {w : World} {l r : T (Int × Sv)} {p : Int × Sv} {a al ar : Option Addr}
/-- over, from a world behind w -/
theorem over_at {W : World} {t1 t2 : T (Int × Sv)} {q : Int × Sv} {n x y : Option Addr} (k : Kp Nu w W) (hn : Nd W q n) (h1 : Tr W t1 x) (h2 : Tr W t2 y) (hs : t1.sz + t2.sz < 2 ^ 62) :
    Calls Try.prog 197 #[.pointer n, .pointer x, .pointer y] W fun e w' => ∃ a', e = .returned (.pointer a') ∧ Tr w' (.node t1 q t2) a' ∧ Kp Nu W w' ∧ Kp Nu w w' :=
  (over_any hn h1 h2 hs).mono fun e w' ⟨a', e1, e2, e3⟩ => ⟨a', e1, e2, e3, k.andNu e3⟩

set_option maxRecDepth 100000 in
set_option maxHeartbeats 2000000 in
theorem bal_0 (hn : Nd w p a) (hl : Tr w l al) (hr : Tr w r ar) (hs : l.sz + r.sz < 2 ^ 62) (h1 : ¬ r.ht + 1 < l.ht) (h2 : ¬ l.ht + 1 < r.ht) :
    Calls Try.prog 196 #[.pointer a, .pointer al, .pointer ar] w fun e w' => ∃ a', e = .returned (.pointer a') ∧ Tr w' (T.mk p l r) a' ∧ Kp Nu w w' := by
  have HL : ∀ W, Kp Nu w W → Calls Try.prog 205 #[.pointer al] W fun e w' => e = .returned (.int .i64 (l.ht : Int)) ∧ w' = W := fun W k => high_any (hl.nu k)
  have HR : ∀ W, Kp Nu w W → Calls Try.prog 205 #[.pointer ar] W fun e w' => e = .returned (.int .i64 (r.ht : Int)) ∧ w' = W := fun W k => high_any (hr.nu k)
  have O1 : ∀ W, Kp Nu w W → Calls Try.prog 197 #[.pointer a, .pointer al, .pointer ar] W fun e w' => ∃ a', e = .returned (.pointer a') ∧ Tr w' (T.mk p l r) a' ∧ Kp Nu w w' := fun W k => by
    refine (over_at k (hn.keep (Kn.nu k)) (hl.nu k) (hr.nu k) hs).mono ?_
    rintro e w' ⟨a', e1, e2, e3, e4⟩
    exact ⟨a', e1, by unfold T.mk; rw [if_neg h1, if_neg h2]; exact e2, e4⟩
  have e1 := ht_sz l
  have e2 := ht_sz r
  generalize l.ht = A at *
  generalize r.ht = B at *
  have h3 : (A : Int) - (B : Int) = -1 ∨ (A : Int) - (B : Int) = 0 ∨ (A : Int) - (B : Int) = 1 := by omega
  have hA : (A : Int) < 4611686018427387904 := by omega
  have hB : (B : Int) < 4611686018427387904 := by omega
  clear hn hl hr h1 h2 hs e1 e2
  rcases h3 with hd | hd | hd
  all_goals go_enter Try.func196, Try.ntmps196
  all_goals go_wp2_with (first
    | (go_at_call_of 205 al; refine (HL _ ?_).mono ?_; (repeat (first | assumption | exact Kp.refl _ _ | apply Kp.drew)); rintro e w' ⟨rfl, rfl⟩)
    | (go_at_call_of 205 ar; refine (HR _ ?_).mono ?_; (repeat (first | assumption | exact Kp.refl _ _ | apply Kp.drew)); rintro e w' ⟨rfl, rfl⟩)
    | (go_at_call 197; refine (O1 _ ?_).mono ?_; (repeat (first | assumption | exact Kp.refl _ _ | apply Kp.drew)); rintro e w' ⟨a', rfl, t1, k1⟩))
  all_goals go_ret
  all_goals exact ⟨_, rfl, t1, k1⟩

end
end Go.Proofs.Ytchealdgncgjoaa.StU
