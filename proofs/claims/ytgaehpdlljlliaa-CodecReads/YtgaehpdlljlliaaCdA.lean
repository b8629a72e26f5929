import Derived.Test.YtgaehpdlljlliaaRows
import Derived.WalkKit
import Derived.ProofKit
import Derived.Below
import Derived.Laws.AppendOwn
import Derived.Laws.BitsAllLaws
namespace Go.Proofs.Ytgaehpdlljlliaa.Cd
open Go.RowKit
set_option linter.unusedVariables false

/-- nothing has turned but blocks of S, and new blocks. -/
structure Kp (S : Nat → Prop) (w w' : World) : Prop where
  os : w'.os = w.os
  tape : w'.tape = w.tape
  output : w'.output = w.output
  size : w.heap.size ≤ w'.heap.size
  block : ∀ k, k < w.heap.size → ¬ S k → w'.heap[k]? = w.heap[k]?

theorem Kp.refl (S : Nat → Prop) (w : World) : Kp S w w := ⟨rfl, rfl, rfl, Nat.le_refl _, fun _ _ _ => rfl⟩
theorem Kp.trans {S T : Nat → Prop} {a b c : World} (h : Kp S a b) (k : Kp T b c) (hT : ∀ i, i < a.heap.size → T i → S i) : Kp S a c :=
  ⟨k.os.trans h.os, k.tape.trans h.tape, k.output.trans h.output, Nat.le_trans h.size k.size,
    fun i hi hS => (k.block i (Nat.lt_of_lt_of_le hi h.size) (fun ht => hS (hT i hi ht))).trans (h.block i hi hS)⟩
theorem Kp.of_grown {w w' : World} {row : Option Nat} (h : w.grownBy w' row) : Kp (fun k => some k = row) w w' :=
  ⟨h.os, h.tape, h.output, h.size, fun k hk hn => h.block k hk hn⟩
theorem Kp.mono {S T : Nat → Prop} {w w' : World} (h : Kp S w w') (hT : ∀ i, i < w.heap.size → S i → T i) : Kp T w w' :=
  ⟨h.os, h.tape, h.output, h.size, fun k hk hn => h.block k hk (fun hs => hn (hT k hk hs))⟩
theorem Kp.drew {S : Nat → Prop} {a w : World} (h : Kp S a w) : Kp S a w.drew := ⟨h.os, h.tape, h.output, h.size, h.block⟩
theorem Kp.alloc (w : World) (o : Obj) (S : Nat → Prop) : Kp S w (w.alloc o) := ⟨rfl, rfl, rfl, by simp, fun k hk _ => Below.heap_alloc w o k hk⟩
theorem Kp.setCell (w : World) (a : Addr) (u : Value) : Kp (fun k => k = a.block) w (w.setCell a u) :=
  ⟨rfl, rfl, rfl, by simp [World.setCell], fun k _ hn => Below.heap_setCell w a u k hn⟩
theorem Kp.below {S : Nat → Prop} {w w' : World} (h : Kp S w w') (B : Nat) (hB : B ≤ w.heap.size) (hS : ∀ k, S k → B ≤ k) : Below B w w' :=
  ⟨h.os, h.tape, h.output, h.size, fun k hk => h.block k (by omega) (fun hs => by have := hS k hs; omega)⟩

/-- three cells of a block -/
theorem cell3 {w : World} {b : Nat} {x y z : Value} {t : TypeId} (h : w.heap[b]? = some (.cells #[x, y, z] t (0, 0))) :
    w.cell? ⟨b, 0, none⟩ = some x ∧ w.cell? ⟨b, 1, none⟩ = some y ∧ w.cell? ⟨b, 2, none⟩ = some z := by
  refine ⟨?_, ?_, ?_⟩ <;> simp [World.cell?, h]
theorem free3 {w : World} {b : Nat} {c : Array Value} {t : TypeId} (h : w.heap[b]? = some (.cells c t (0, 0))) (o : Nat) : w.frozen? ⟨b, o, none⟩ = false := by
  simp [World.frozen?, h]
theorem set3 {w : World} {b : Nat} {c : Array Value} {t : TypeId} (h : w.heap[b]? = some (.cells c t (0, 0))) (o : Nat) (u : Value) :
    (w.setCell ⟨b, o, none⟩ u).heap[b]? = some (.cells (c.setIfInBounds o u) t (0, 0)) := by
  simp [World.setCell, Array.getElem?_modify, h]

def cs (xs : List Int) : List Value := xs.map (Value.int .u8)

/-- a writer at block b -/
structure Wr (w : World) (b : Nat) (lim err : Int) (v : Value) (xs : List Int) : Prop where
  blk : w.heap[b]? = some (.cells #[.int .i64 lim, v, .int .i64 err] 73 (0, 0))
  own : w.ownsRow 0 5 1 v xs.length (cs xs)

def fp (b : Nat) (v : Value) : Nat → Prop := fun k => k = b ∨ some k = v.ownBlock
/-- from w to w' the writer's row went from v to v' -/
structure Fr (b : Nat) (v : Value) (w w' : World) (v' : Value) : Prop where
  kp : Kp (fp b v) w w'
  lie : v'.ownBlock = v.ownBlock ∨ ∃ g, w.heap.size ≤ g ∧ v'.ownBlock = some g

theorem Fr.refl (b : Nat) (v : Value) (w : World) : Fr b v w w v := ⟨Kp.refl _ _, .inl rfl⟩
theorem Fr.trans {b : Nat} {v v' v'' : Value} {w w' w'' : World} (h : Fr b v w w' v') (k : Fr b v' w' w'' v'') : Fr b v w w'' v'' := by
  refine ⟨h.kp.trans k.kp ?_, ?_⟩
  · rintro i hi (rfl | e)
    · exact .inl rfl
    · rcases h.lie with hl | ⟨g, hg, hl⟩
      · exact .inr (e.trans hl)
      · rw [hl] at e; cases e; omega
  · rcases k.lie with kl | ⟨g, hg, kl⟩
    · rcases h.lie with hl | ⟨g, hg, hl⟩
      · exact .inl (kl.trans hl)
      · exact .inr ⟨g, hg, kl.trans hl⟩
    · exact .inr ⟨g, Nat.le_trans h.kp.size hg, kl⟩

theorem Wr.slice {w : World} {b : Nat} {lim err : Int} {v : Value} {xs : List Int} (h : Wr w b lim err v xs) : ∃ ad cap, v = .slice ad xs.length cap := by
  rcases h.own.2 with ⟨rfl, h0⟩ | ⟨g, cap, cur, rfl, _⟩
  · exact ⟨none, 0, by rw [h0]⟩
  · exact ⟨_, cap, rfl⟩

theorem err_any {w : World} {b : Nat} {lim err : Int} {v : Value} {xs : List Int} (h : Wr w b lim err v xs) :
    Calls Try.prog 43 #[.pointer (some ⟨b, 0, none⟩)] w fun e w' => e = .returned (.int .i64 err) ∧ w' = w := by
  obtain ⟨c0, c1, c2⟩ := cell3 h.blk
  go_enter Try.func43, Try.ntmps43
  go_wp2
  go_ret
  exact ⟨rfl, rfl⟩

theorem err_nil (w : World) : Calls Try.prog 43 #[.pointer none] w fun e w' => e = .returned (.int .i64 1) ∧ w' = w := by
  go_enter Try.func43, Try.ntmps43
  go_wp2
  go_ret
  exact ⟨rfl, rfl⟩

theorem len_any {w : World} {b : Nat} {lim err : Int} {v : Value} {xs : List Int} (h : Wr w b lim err v xs) :
    Calls Try.prog 26 #[.pointer (some ⟨b, 0, none⟩)] w fun e w' => e = .returned (.int .i64 (xs.length : Int)) ∧ w' = w := by
  obtain ⟨c0, c1, c2⟩ := cell3 h.blk
  obtain ⟨ad, cap, rfl⟩ := h.slice
  go_enter Try.func26, Try.ntmps26
  go_wp2
  go_ret
  exact ⟨rfl, rfl⟩

theorem len_nil (w : World) : Calls Try.prog 26 #[.pointer none] w fun e w' => e = .returned (.int .i64 0) ∧ w' = w := by
  go_enter Try.func26, Try.ntmps26
  go_wp2
  go_ret
  exact ⟨rfl, rfl⟩

/-- fits: an error stands -/
theorem fits_err {w : World} {b : Nat} {lim err : Int} {v : Value} {xs : List Int} (h : Wr w b lim err v xs) (he : (err != 0) = true) (n : Int) :
    Calls Try.prog 70 #[.pointer (some ⟨b, 0, none⟩), .int .i64 n] w fun e w' => e = .returned (.bool false) ∧ w' = w := by
  obtain ⟨c0, c1, c2⟩ := cell3 h.blk
  go_enter Try.func70, Try.ntmps70
  go_wp2
  go_ret
  exact ⟨rfl, rfl⟩
theorem fits_nil (w : World) (n : Int) : Calls Try.prog 70 #[.pointer none, .int .i64 n] w fun e w' => e = .returned (.bool false) ∧ w' = w := by
  go_enter Try.func70, Try.ntmps70
  go_wp2
  go_ret
  exact ⟨rfl, rfl⟩
theorem fits_yes {w : World} {b : Nat} {lim : Int} {v : Value} {xs : List Int} (h : Wr w b lim 0 v xs) (n : Int) (hl : 0 ≤ lim) (hl2 : lim ≤ 16777216) (hx : (xs.length : Int) ≤ 16777216) (hn : n ≤ lim - (xs.length : Int)) :
    Calls Try.prog 70 #[.pointer (some ⟨b, 0, none⟩), .int .i64 n] w fun e w' => e = .returned (.bool true) ∧ w' = w.drew := by
  obtain ⟨c0, c1, c2⟩ := cell3 h.blk
  obtain ⟨ad, cap, rfl⟩ := h.slice
  have hnn : ¬ n > lim - (xs.length : Int) := by omega
  go_enter Try.func70, Try.ntmps70
  go_wp2
  go_region
  go_wp2
  go_ret
  exact ⟨rfl, rfl⟩

theorem Wr.keeps {S : Nat → Prop} {w w' : World} {b : Nat} {lim err : Int} {v : Value} {xs : List Int} (h : Wr w b lim err v xs) (k : Kp S w w') (hb : ¬ S b) (hv : ∀ g, v.ownBlock = some g → ¬ S g) : Wr w' b lim err v xs := by
  have hlt : b < w.heap.size := by
    rcases Nat.lt_or_ge b w.heap.size with hlt | hge
    · exact hlt
    · have := h.blk; rw [Array.getElem?_eq_none hge] at this; cases this
  refine ⟨(k.block b hlt hb).trans h.blk, h.own.1, ?_⟩
  rcases h.own.2 with ⟨rfl, h0⟩ | ⟨g, cap, cur, rfl, hb', hg, h1, h2, h3, h4⟩
  · exact .inl ⟨rfl, h0⟩
  · refine .inr ⟨g, cap, cur, rfl, hb', ?_, h1, h2, h3, h4⟩
    have hg2 : g < w.heap.size := by
      rcases Nat.lt_or_ge g w.heap.size with hlt | hge
      · exact hlt
      · rw [Array.getElem?_eq_none hge] at hg; cases hg
    exact (k.block g hg2 (hv g rfl)).trans hg

theorem Wr.drew {w : World} {b : Nat} {lim err : Int} {v : Value} {xs : List Int} (h : Wr w b lim err v xs) : Wr w.drew b lim err v xs := ⟨h.blk, h.own⟩

/-- the row's block is not the writer's own -/
theorem Wr.ne {w : World} {b : Nat} {lim err : Int} {v : Value} {xs : List Int} (h : Wr w b lim err v xs) : ∀ g, v.ownBlock = some g → g ≠ b := by
  rintro g hg rfl
  rcases h.own.2 with ⟨rfl, h0⟩ | ⟨g', cap, cur, rfl, hb', hg', _⟩
  · simp [Value.ownBlock] at hg
  · simp [Value.ownBlock] at hg
    subst hg
    have := h.blk
    rw [this] at hg'
    cases hg'

theorem ownsRow_set {w : World} {b o : Nat} {e n : Nat} {v u : Value} {xs : List Value} (h : w.ownsRow 0 e 1 v n xs) (hv : ∀ g, v.ownBlock = some g → g ≠ b) : (w.setCell ⟨b, o, none⟩ u).ownsRow 0 e 1 v n xs := by
  refine ⟨h.1, ?_⟩
  rcases h.2 with ⟨rfl, h0⟩ | ⟨g, cap, cur, rfl, hb', hg, h1, h2, h3, h4⟩
  · exact .inl ⟨rfl, h0⟩
  · refine .inr ⟨g, cap, cur, rfl, hb', ?_, h1, h2, h3, h4⟩
    exact (Below.heap_setCell w ⟨b, o, none⟩ u g (hv g rfl)).trans hg

theorem Wr.setErr {w : World} {b : Nat} {lim err : Int} {v : Value} {xs : List Int} (h : Wr w b lim err v xs) (q : Int) : Wr (w.setCell ⟨b, 2, none⟩ (.int .i64 q)) b lim q v xs := by
  refine ⟨?_, ownsRow_set h.own h.ne⟩
  rw [set3 h.blk]
  rfl

theorem fits_no {w : World} {b : Nat} {lim : Int} {v : Value} {xs : List Int} (h : Wr w b lim 0 v xs) (n : Int) (hl : 0 ≤ lim) (hl2 : lim ≤ 16777216) (hx : (xs.length : Int) ≤ 16777216) (hn : n > lim - (xs.length : Int)) :
    Calls Try.prog 70 #[.pointer (some ⟨b, 0, none⟩), .int .i64 n] w fun e w' => e = .returned (.bool false) ∧ Wr w' b lim 20 v xs ∧ Fr b v w w' v := by
  obtain ⟨c0, c1, c2⟩ := cell3 h.blk
  have cf := free3 h.blk 2
  obtain ⟨ad, cap, rfl⟩ := h.slice
  go_enter Try.func70, Try.ntmps70
  go_wp2
  go_region
  go_wp2
  go_ret
  exact ⟨rfl, h.drew.setErr 20, ⟨(Kp.refl _ w).drew.trans (Kp.setCell _ _ _) (fun i _ e => .inl e), .inl rfl⟩⟩
end Go.Proofs.Ytgaehpdlljlliaa.Cd
