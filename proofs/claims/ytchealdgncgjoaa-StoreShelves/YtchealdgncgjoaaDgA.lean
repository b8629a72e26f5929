import Derived.Test.YtchealdgncgjoaaRows
import Derived.WalkKit
import Derived.ProofKit
import Derived.Below
import Derived.Laws.AppendOwn
import Derived.Laws.BitsAllLaws
import Derived.Maps.AppendAt
import Derived.OwnWalk
import Derived.Laws.CopyOwn
import Derived.Laws.AppendOwnNone
namespace Go.Proofs.Ytchealdgncgjoaa.Cd
open Go.RowKit
set_option linter.unusedVariables false
/-- nothing has turned but blocks of S, and new blocks. -/
structure Kp (S : Nat → Prop) (w w' : World) : Prop where
  os : w'.os = w.os
  tape : w'.tape = w.tape
  output : w'.output = w.output
  size : w.heap.size ≤ w'.heap.size
  block : ∀ k, k < w.heap.size → ¬ S k → w'.heap[k]? = w.heap[k]?

theorem Kp.refl (S : Nat → Prop) (w : World) : Kp S w w := ⟨rfl, rfl, rfl, Nat.le_refl _, fun _ _ _ => rfl⟩
theorem Kp.trans {S T : Nat → Prop} {a b c : World} (h : Kp S a b) (k : Kp T b c) (hT : ∀ i, i < a.heap.size → T i → S i) : Kp S a c :=
  ⟨k.os.trans h.os, k.tape.trans h.tape, k.output.trans h.output, Nat.le_trans h.size k.size,
    fun i hi hS => (k.block i (Nat.lt_of_lt_of_le hi h.size) (fun ht => hS (hT i hi ht))).trans (h.block i hi hS)⟩
theorem Kp.of_grown {w w' : World} {row : Option Nat} (h : w.grownBy w' row) : Kp (fun k => some k = row) w w' :=
  ⟨h.os, h.tape, h.output, h.size, fun k hk hn => h.block k hk hn⟩
theorem Kp.mono {S T : Nat → Prop} {w w' : World} (h : Kp S w w') (hT : ∀ i, i < w.heap.size → S i → T i) : Kp T w w' :=
  ⟨h.os, h.tape, h.output, h.size, fun k hk hn => h.block k hk (fun hs => hn (hT k hk hs))⟩
theorem Kp.drew {S : Nat → Prop} {a w : World} (h : Kp S a w) : Kp S a w.drew := ⟨h.os, h.tape, h.output, h.size, h.block⟩
theorem Kp.alloc (w : World) (o : Obj) (S : Nat → Prop) : Kp S w (w.alloc o) := ⟨rfl, rfl, rfl, by simp, fun k hk _ => Below.heap_alloc w o k hk⟩
theorem Kp.setCell (w : World) (a : Addr) (u : Value) : Kp (fun k => k = a.block) w (w.setCell a u) :=
  ⟨rfl, rfl, rfl, by simp [World.setCell], fun k _ hn => Below.heap_setCell w a u k hn⟩
theorem Kp.below {S : Nat → Prop} {w w' : World} (h : Kp S w w') (B : Nat) (hB : B ≤ w.heap.size) (hS : ∀ k, S k → B ≤ k) : Below B w w' :=
  ⟨h.os, h.tape, h.output, h.size, fun k hk => h.block k (by omega) (fun hs => by have := hS k hs; omega)⟩

/-- three cells of a block -/
theorem cell3 {w : World} {b : Nat} {x y z : Value} {t : TypeId} (h : w.heap[b]? = some (.cells #[x, y, z] t (0, 0))) :
    w.cell? ⟨b, 0, none⟩ = some x ∧ w.cell? ⟨b, 1, none⟩ = some y ∧ w.cell? ⟨b, 2, none⟩ = some z := by
  refine ⟨?_, ?_, ?_⟩ <;> simp [World.cell?, h]
theorem free3 {w : World} {b : Nat} {c : Array Value} {t : TypeId} (h : w.heap[b]? = some (.cells c t (0, 0))) (o : Nat) : w.frozen? ⟨b, o, none⟩ = false := by
  simp [World.frozen?, h]
theorem set3 {w : World} {b : Nat} {c : Array Value} {t : TypeId} (h : w.heap[b]? = some (.cells c t (0, 0))) (o : Nat) (u : Value) :
    (w.setCell ⟨b, o, none⟩ u).heap[b]? = some (.cells (c.setIfInBounds o u) t (0, 0)) := by
  simp [World.setCell, Array.getElem?_modify, h]

def cs (xs : List Int) : List Value := xs.map (Value.int .u8)

/-- a writer at block b -/
structure Wr (w : World) (b : Nat) (lim err : Int) (v : Value) (xs : List Int) : Prop where
  blk : w.heap[b]? = some (.cells #[.int .i64 lim, v, .int .i64 err] 239 (0, 0))
  own : w.ownsRow 0 5 1 v xs.length (cs xs)

def fp (b : Nat) (v : Value) : Nat → Prop := fun k => k = b ∨ some k = v.ownBlock
/-- from w to w' the writer's row went from v to v' -/
structure Fr (b : Nat) (v : Value) (w w' : World) (v' : Value) : Prop where
  kp : Kp (fp b v) w w'
  lie : v'.ownBlock = v.ownBlock ∨ ∃ g, w.heap.size ≤ g ∧ v'.ownBlock = some g

theorem Fr.refl (b : Nat) (v : Value) (w : World) : Fr b v w w v := ⟨Kp.refl _ _, .inl rfl⟩
theorem Fr.trans {b : Nat} {v v' v'' : Value} {w w' w'' : World} (h : Fr b v w w' v') (k : Fr b v' w' w'' v'') : Fr b v w w'' v'' := by
  refine ⟨h.kp.trans k.kp ?_, ?_⟩
  · rintro i hi (rfl | e)
    · exact .inl rfl
    · rcases h.lie with hl | ⟨g, hg, hl⟩
      · exact .inr (e.trans hl)
      · rw [hl] at e; cases e; omega
  · rcases k.lie with kl | ⟨g, hg, kl⟩
    · rcases h.lie with hl | ⟨g, hg, hl⟩
      · exact .inl (kl.trans hl)
      · exact .inr ⟨g, hg, kl.trans hl⟩
    · exact .inr ⟨g, Nat.le_trans h.kp.size hg, kl⟩

theorem Wr.slice {w : World} {b : Nat} {lim err : Int} {v : Value} {xs : List Int} (h : Wr w b lim err v xs) : ∃ ad cap, v = .slice ad xs.length cap := by
  rcases h.own.2 with ⟨rfl, h0⟩ | ⟨g, cap, cur, rfl, _⟩
  · exact ⟨none, 0, by rw [h0]⟩
  · exact ⟨_, cap, rfl⟩

theorem err_any {w : World} {b : Nat} {lim err : Int} {v : Value} {xs : List Int} (h : Wr w b lim err v xs) :
    Calls Try.prog 202 #[.pointer (some ⟨b, 0, none⟩)] w fun e w' => e = .returned (.int .i64 err) ∧ w' = w := by
  obtain ⟨c0, c1, c2⟩ := cell3 h.blk
  go_enter Try.func202, Try.ntmps202
  go_wp2
  go_ret
  exact ⟨rfl, rfl⟩

/-- fits: an error stands -/
theorem fits_err {w : World} {b : Nat} {lim err : Int} {v : Value} {xs : List Int} (h : Wr w b lim err v xs) (he : (err != 0) = true) (n : Int) :
    Calls Try.prog 201 #[.pointer (some ⟨b, 0, none⟩), .int .i64 n] w fun e w' => e = .returned (.bool false) ∧ w' = w := by
  obtain ⟨c0, c1, c2⟩ := cell3 h.blk
  go_enter Try.func201, Try.ntmps201
  go_wp2
  go_ret
  exact ⟨rfl, rfl⟩
theorem fits_yes {w : World} {b : Nat} {lim : Int} {v : Value} {xs : List Int} (h : Wr w b lim 0 v xs) (n : Int) (hl : 0 ≤ lim) (hl2 : lim ≤ 16777216) (hx : (xs.length : Int) ≤ 16777216) (hn : n ≤ lim - (xs.length : Int)) :
    Calls Try.prog 201 #[.pointer (some ⟨b, 0, none⟩), .int .i64 n] w fun e w' => e = .returned (.bool true) ∧ w' = w.drew := by
  obtain ⟨c0, c1, c2⟩ := cell3 h.blk
  obtain ⟨ad, cap, rfl⟩ := h.slice
  have hnn : ¬ n > lim - (xs.length : Int) := by omega
  go_enter Try.func201, Try.ntmps201
  go_wp2
  go_region
  go_wp2
  go_ret
  exact ⟨rfl, rfl⟩

theorem Wr.keeps {S : Nat → Prop} {w w' : World} {b : Nat} {lim err : Int} {v : Value} {xs : List Int} (h : Wr w b lim err v xs) (k : Kp S w w') (hb : ¬ S b) (hv : ∀ g, v.ownBlock = some g → ¬ S g) : Wr w' b lim err v xs := by
  have hlt : b < w.heap.size := by
    rcases Nat.lt_or_ge b w.heap.size with hlt | hge
    · exact hlt
    · have := h.blk; rw [Array.getElem?_eq_none hge] at this; cases this
  refine ⟨(k.block b hlt hb).trans h.blk, h.own.1, ?_⟩
  rcases h.own.2 with ⟨rfl, h0⟩ | ⟨g, cap, cur, rfl, hb', hg, h1, h2, h3, h4⟩
  · exact .inl ⟨rfl, h0⟩
  · refine .inr ⟨g, cap, cur, rfl, hb', ?_, h1, h2, h3, h4⟩
    have hg2 : g < w.heap.size := by
      rcases Nat.lt_or_ge g w.heap.size with hlt | hge
      · exact hlt
      · rw [Array.getElem?_eq_none hge] at hg; cases hg
    exact (k.block g hg2 (hv g rfl)).trans hg

theorem Wr.drew {w : World} {b : Nat} {lim err : Int} {v : Value} {xs : List Int} (h : Wr w b lim err v xs) : Wr w.drew b lim err v xs := ⟨h.blk, h.own⟩

/-- the row's block is not the writer's own -/
theorem Wr.ne {w : World} {b : Nat} {lim err : Int} {v : Value} {xs : List Int} (h : Wr w b lim err v xs) : ∀ g, v.ownBlock = some g → g ≠ b := by
  rintro g hg rfl
  rcases h.own.2 with ⟨rfl, h0⟩ | ⟨g', cap, cur, rfl, hb', hg', _⟩
  · simp [Value.ownBlock] at hg
  · simp [Value.ownBlock] at hg
    subst hg
    have := h.blk
    rw [this] at hg'
    cases hg'

theorem ownsRow_set {w : World} {b o : Nat} {e n : Nat} {v u : Value} {xs : List Value} (h : w.ownsRow 0 e 1 v n xs) (hv : ∀ g, v.ownBlock = some g → g ≠ b) : (w.setCell ⟨b, o, none⟩ u).ownsRow 0 e 1 v n xs := by
  refine ⟨h.1, ?_⟩
  rcases h.2 with ⟨rfl, h0⟩ | ⟨g, cap, cur, rfl, hb', hg, h1, h2, h3, h4⟩
  · exact .inl ⟨rfl, h0⟩
  · refine .inr ⟨g, cap, cur, rfl, hb', ?_, h1, h2, h3, h4⟩
    exact (Below.heap_setCell w ⟨b, o, none⟩ u g (hv g rfl)).trans hg

theorem Wr.setErr {w : World} {b : Nat} {lim err : Int} {v : Value} {xs : List Int} (h : Wr w b lim err v xs) (q : Int) : Wr (w.setCell ⟨b, 2, none⟩ (.int .i64 q)) b lim q v xs := by
  refine ⟨?_, ownsRow_set h.own h.ne⟩
  rw [set3 h.blk]
  rfl

theorem fits_no {w : World} {b : Nat} {lim : Int} {v : Value} {xs : List Int} (h : Wr w b lim 0 v xs) (n : Int) (hl : 0 ≤ lim) (hl2 : lim ≤ 16777216) (hx : (xs.length : Int) ≤ 16777216) (hn : n > lim - (xs.length : Int)) :
    Calls Try.prog 201 #[.pointer (some ⟨b, 0, none⟩), .int .i64 n] w fun e w' => e = .returned (.bool false) ∧ Wr w' b lim 20 v xs ∧ Fr b v w w' v := by
  obtain ⟨c0, c1, c2⟩ := cell3 h.blk
  have cf := free3 h.blk 2
  obtain ⟨ad, cap, rfl⟩ := h.slice
  go_enter Try.func201, Try.ntmps201
  go_wp2
  go_region
  go_wp2
  go_ret
  exact ⟨rfl, h.drew.setErr 20, ⟨(Kp.refl _ w).drew.trans (Kp.setCell _ _ _) (fun i _ e => .inl e), .inl rfl⟩⟩
theorem ownsRow_succ {w : World} {base e size n : Nat} {v : Value} {xs : List Value} (h : w.ownsRow base e size v (n + 1) xs) : ∃ g cap, v = .slice (some ⟨g, 0, none⟩) (n + 1) cap := by
  rcases h.2 with ⟨_, h0⟩ | ⟨g, cap, _, hv, _⟩
  · omega
  · exact ⟨g, cap, hv⟩

theorem hide {p : Prop} (h : p) : Hid p := h

/-- a row of bytes from v at w to v' at w' -/
structure Gr (v : Value) (w w' : World) (v' : Value) : Prop where
  kp : Kp (fun k => some k = v.ownBlock) w w'
  lie : v'.ownBlock = v.ownBlock ∨ ∃ g, w.heap.size ≤ g ∧ v'.ownBlock = some g
theorem Gr.refl (v : Value) (w : World) : Gr v w w v := ⟨Kp.refl _ _, .inl rfl⟩
theorem Gr.trans {v v' v'' : Value} {w w' w'' : World} (h : Gr v w w' v') (k : Gr v' w' w'' v'') : Gr v w w'' v'' := by
  refine ⟨h.kp.trans k.kp ?_, ?_⟩
  · rintro i hi e
    rcases h.lie with hl | ⟨g, hg, hl⟩
    · exact e.trans hl
    · rw [hl] at e; cases e; omega
  · rcases k.lie with kl | ⟨g, hg, kl⟩
    · rcases h.lie with hl | ⟨g, hg, hl⟩
      · exact .inl (kl.trans hl)
      · exact .inr ⟨g, hg, kl.trans hl⟩
    · exact .inr ⟨g, Nat.le_trans h.kp.size hg, kl⟩
/-- one append, behind the laying of its element -/
theorem Gr.app {v v' : Value} {w w' : World} {o : Obj} (h : (w.alloc o).grownBy w' v.ownBlock) (hv : ∀ g, v.ownBlock = some g → g < w.heap.size) (hat : v'.ownBlock = v.ownBlock ∨ v'.ownBlock = some (w.alloc o).heap.size) : Gr v w w' v' := by
  refine ⟨(Kp.alloc w o _).trans (Kp.of_grown h) (fun i _ e => e), ?_⟩
  rcases hat with e | e
  · exact .inl e
  · exact .inr ⟨_, by simp, e⟩

/-- the n lowest digits to the base 256, the highest first -/
def be : Nat → Nat → List Int
  | 0, _ => []
  | n + 1, x => ((x / 256 ^ n % 256 : Nat) : Int) :: be n x
theorem be_length (n x : Nat) : (be n x).length = n := by induction n with | zero => rfl | succ n ih => simp [be, ih]

theorem cs_append (a b : List Int) : cs (a ++ b) = cs a ++ cs b := by simp [cs]
theorem cs_length (a : List Int) : (cs a).length = a.length := by simp [cs]

theorem info5 : (Try.prog.info? 5).map (fun i => (i.zero, i.size, i.bytes)) = some (some (.int .u8 0), 1, 1) := by kernel_rfl

theorem byteAt (x k : Nat) : ((x : Int) / 2 ^ (8 * k)) % 256 = ((x / 256 ^ k % 256 : Nat) : Int) := by
  rw [show (2 : Int) ^ (8 * k) = ((256 ^ k : Nat) : Int) by rw [Int.pow_mul]; simp]
  omega

theorem ownLt {w : World} {v : Value} {n : Nat} {l : List Value} (h : w.ownsRow 0 5 1 v n l) : ∀ g, v.ownBlock = some g → g < w.heap.size := fun g hg => (h.lt g hg).2

set_option maxRecDepth 100000 in
set_option maxHeartbeats 1000000 in
theorem putNumber_any (w : World) (v : Value) (xs : List Int) (hown : w.ownsRow 0 5 1 v xs.length (cs xs)) (x size : Nat) (hx : x < 18446744073709551616) (hs : size ≤ 8) (hb : xs.length + size ≤ 16777216) :
    Calls Try.prog 206 #[v, .int .u64 (x : Int), .int .i64 (size : Int)] w fun e w' => ∃ v', e = .returned v' ∧ w'.ownsRow 0 5 1 v' (xs ++ be size x).length (cs (xs ++ be size x)) ∧ Gr v w w' v' := by
  obtain ⟨i0, hi, hz0, hz1, hz2⟩ := info_parts info5
  have HX := hide hx
  have HB := hide hb
  clear hx hb
  go_enter Try.func206, Try.ntmps206
  go_wp2
  go_loopw [0, 7] (fun u i wr => ∃ (k : Nat) (pre : List Int), k ≤ size ∧ i = .int .i64 ((k : Int) - 1) ∧ wr.ownsRow 0 5 1 u (xs ++ pre).length (cs (xs ++ pre)) ∧ Hid (pre ++ be k x = be size x) ∧ Gr v w wr u)
    (fun _ i _ => (intOf i + 1).toNat)
  case atStart => exact ⟨size, [], Nat.le_refl _, rfl, by simpa using hown, rfl, Gr.refl _ _⟩
  case round =>
    obtain ⟨k, pre, hk, rfl, hrow, hpre, hG⟩ := hrel
    match k, hk, hpre with
    | 0, hk, hpre =>
      have e : pre = be size x := by simpa [be] using hpre.out
      subst e
      go_wp2
      go_ret
      exact ⟨_, rfl, hrow, hG⟩
    | k + 1, hk, hpre =>
      have hlen : pre.length + (k + 1) = size := by
        have := congrArg List.length hpre.out
        rw [List.length_append, be_length, be_length] at this
        exact this
      have hk8 : k < 8 := by omega
      have hkI : (0 : Int) ≤ (k : Int) := by omega
      have hkI2 : (k : Int) < 8 := by omega
      have e1 : ((k + 1 : Nat) : Int) - 1 = (k : Int) := by omega
      rw [e1]
      have hbd := HB.out
      have hnn : (xs ++ pre).length + 1 ≤ 16777216 := by rw [List.length_append]; omega
      have HN := hide hnn
      clear hbd hnn
      have hlt := ownLt hrow
      go_wp2_with (at_builtin; refine wpList_append_own_at _ rfl _ _ 74 rfl 0 5 i0 _ 1 1 Try.underlying74 hi hz0 hz1 hz2 rfl (by decide) _ _ _ rfl (hrow.alloc _) ⟨wr.heap.size, 0, none⟩ 1 1 [.int .u8 ((x : Int) / 2 ^ (8 * k) % 256)] rfl rfl (cell_one_new _ _ _) (by simp [Value.oneCell']) ?q1 ?q2 ?q3 ?_; rotate_left 3; intro v' w1 hown' hgrow _ hat; obtain ⟨g', cap', rfl⟩ := ownsRow_succ hown')
      · refine ⟨⟨k, pre ++ [((x / 256 ^ k % 256 : Nat) : Int)], by omega, by go_num, ?_, ?_, hG.trans (Gr.app hgrow hlt hat)⟩, by simp [intOf]⟩
        · rw [byteAt] at hown'
          simpa [cs, Nat.add_assoc] using hown'
        · show (pre ++ _) ++ be k x = _
          rw [List.append_assoc]
          exact hpre.out
      · have := HN.out; unfold maxLen; omega
      · have := HN.out; omega
      · omega

/-- what a write of ys leaves -/
def put (lim err : Int) (xs ys : List Int) : Int × List Int :=
  if err = 0 then (if (ys.length : Int) ≤ lim - (xs.length : Int) then (0, xs ++ ys) else (20, xs)) else (err, xs)

/-- the writer's numbers are as they must be -/
structure Ok (lim : Int) (xs : List Int) : Prop where
  lo : 0 ≤ lim
  hi : lim ≤ 16777216
  le : (xs.length : Int) ≤ lim

theorem Ok.put {lim err : Int} {xs ys : List Int} (h : Ok lim xs) : Ok lim (put lim err xs ys).2 := by
  unfold Cd.put
  split
  · split
    · exact ⟨h.lo, h.hi, by simp; omega⟩
    · exact h
  · exact h

theorem Wr.ne' {w w1 : World} {b : Nat} {c : Array Value} {v : Value} {n : Nat} {l : List Value} (h : w1.heap[b]? = some (.cells c 239 (0, 0))) (ho : w1.ownsRow 0 5 1 v n l) : ∀ g, v.ownBlock = some g → g ≠ b := by
  rintro g hg rfl
  rcases ho.2 with ⟨rfl, h0⟩ | ⟨g', cap, cur, rfl, hb', hg', _⟩
  · simp [Value.ownBlock] at hg
  · simp [Value.ownBlock] at hg
    subst hg
    rw [h] at hg'
    cases hg'

theorem own_slice {w : World} {base e size n : Nat} {v : Value} {l : List Value} (h : w.ownsRow base e size v n l) : ∃ ad cap, v = .slice ad n cap := by
  rcases h.2 with ⟨rfl, h0⟩ | ⟨g, cap, cur, rfl, _⟩
  · exact ⟨none, 0, by rw [h0]⟩
  · exact ⟨_, cap, rfl⟩

theorem own_slice' {w : World} {base e size n : Nat} {v : Value} {l : List Value} (h : w.ownsRow base e size v n l) : ∃ ad n' cap, v = .slice ad n' cap := by
  obtain ⟨ad, cap, e⟩ := own_slice h
  exact ⟨ad, n, cap, e⟩

theorem Wr.lt {w : World} {b : Nat} {lim err : Int} {v : Value} {xs : List Int} (h : Wr w b lim err v xs) : b < w.heap.size := by
  rcases Nat.lt_or_ge b w.heap.size with hlt | hge
  · exact hlt
  · have := h.blk; rw [Array.getElem?_eq_none hge] at this; cases this

theorem Wr.blk1 {w w1 : World} {b : Nat} {lim err : Int} {v v' : Value} {xs : List Int} (h : Wr w b lim err v xs) (hg : Gr v w w1 v') : w1.heap[b]? = some (.cells #[.int .i64 lim, v, .int .i64 err] 239 (0, 0)) :=
  (hg.kp.block b h.lt (fun e => h.ne b e.symm rfl)).trans h.blk

theorem Wr.store {w w1 : World} {b : Nat} {lim err : Int} {v v' : Value} {xs ys : List Int} (h : Wr w b lim err v xs) (hg : Gr v w w1 v') (ho : w1.ownsRow 0 5 1 v' ys.length (cs ys)) :
    Wr (w1.setCell ⟨b, 1, none⟩ v') b lim err v' ys ∧ Fr b v w (w1.setCell ⟨b, 1, none⟩ v') v' := by
  have hb := h.blk1 hg
  refine ⟨⟨?_, ownsRow_set ho (Wr.ne' (w := w) hb ho)⟩, ⟨(hg.kp.mono (fun i _ e => .inr e)).trans (Kp.setCell _ _ _) (fun i _ e => .inl e), hg.lie⟩⟩
  rw [set3 hb]
  rfl

theorem Fr.drew {b : Nat} {v v' : Value} {w w' : World} (h : Fr b v w.drew w' v') : Fr b v w w' v' := ⟨⟨h.kp.os, h.kp.tape, h.kp.output, h.kp.size, h.kp.block⟩, h.lie⟩

set_option maxHeartbeats 400000 in
theorem number_any {w : World} {b : Nat} {lim err : Int} {v : Value} {xs : List Int} (h : Wr w b lim err v xs) (k : Ok lim xs) (x size : Nat) (hx : x < 18446744073709551616) (hs : size ≤ 8) :
    Calls Try.prog 200 #[.pointer (some ⟨b, 0, none⟩), .int .u64 (x : Int), .int .i64 (size : Int)] w fun e w' => e = .returned (.tuple #[]) ∧ ∃ v', Wr w' b lim (put lim err xs (be size x)).1 v' (put lim err xs (be size x)).2 ∧ Fr b v w w' v' := by
  obtain ⟨c0, c1, c2⟩ := cell3 h.blk
  by_cases he : err = 0
  · subst he
    by_cases hf : ((be size x).length : Int) ≤ lim - (xs.length : Int)
    · have F := fits_yes h (size : Int) k.lo k.hi (by have := k.le; have := k.hi; omega) (by rw [be_length] at hf; exact hf)
      have P := fun w' (hw : w'.ownsRow 0 5 1 v xs.length (cs xs)) => putNumber_any w' v xs hw x size hx hs (by rw [be_length] at hf; have := k.hi; omega)
      have e : put lim 0 xs (be size x) = (0, xs ++ be size x) := by simp only [put, if_pos hf, if_true]
      rw [e]
      clear hf e hx hs
      go_enter Try.func200, Try.ntmps200
      go_wp2_with fail
      refine F.mono ?_; rintro e w' ⟨rfl, rfl⟩
      go_wp2_with fail
      refine (P _ h.drew.own).mono ?_; rintro e w1 ⟨v', rfl, ho, hg⟩
      have hb1 := cell3 (h.drew.blk1 hg)
      have hb2 := free3 (h.drew.blk1 hg) 1
      have hst := h.drew.store hg ho
      obtain ⟨ad', n', cap', rfl⟩ := own_slice' ho
      obtain ⟨hb3, hb4, hb5⟩ := hb1
      go_wp2
      go_end0
      exact ⟨rfl, _, hst.1, hst.2.drew⟩
    · have F := fits_no h (size : Int) k.lo k.hi (by have := k.le; have := k.hi; omega) (by rw [be_length] at hf; omega)
      have e : put lim 0 xs (be size x) = (20, xs) := by simp only [put, if_neg hf, if_true]
      rw [e]
      clear hf e hx hs
      go_enter Try.func200, Try.ntmps200
      go_wp2_with fail
      refine F.mono ?_; rintro e w' ⟨rfl, hw, hfr⟩
      go_wp2
      go_end0
      exact ⟨rfl, v, hw, hfr⟩
  · have F := fits_err h (by simpa using he) (size : Int)
    have e : put lim err xs (be size x) = (err, xs) := by simp only [put, if_neg he]
    rw [e]
    clear e hx hs
    go_enter Try.func200, Try.ntmps200
    go_wp2_with fail
    refine F.mono ?_; rintro e w' ⟨rfl, rfl⟩
    go_wp2
    go_end0
    exact ⟨rfl, v, h, Fr.refl _ _ _⟩

/-- what every writing call leaves -/
def Wrote (f : Nat) (b : Nat) (arg : Value) (lim err : Int) (v : Value) (xs ys : List Int) (w : World) : Prop :=
  Calls Try.prog f #[.pointer (some ⟨b, 0, none⟩), arg] w fun e w' => e = .returned (.tuple #[]) ∧ ∃ v', Wr w' b lim (put lim err xs ys).1 v' (put lim err xs ys).2 ∧ Fr b v w w' v'

section
variable {w : World} {b : Nat} {lim err : Int} {v : Value} {xs : List Int}
theorem number_int (h : Wr w b lim err v xs) (k : Ok lim xs) (X size : Int) (n : Nat) (hn : size = (n : Int)) (h0 : 0 ≤ X) (hx : X < 18446744073709551616) (hs : n ≤ 8) :
    Calls Try.prog 200 #[.pointer (some ⟨b, 0, none⟩), .int .u64 X, .int .i64 size] w fun e w' => e = .returned (.tuple #[]) ∧ ∃ v', Wr w' b lim (put lim err xs (be n X.toNat)).1 v' (put lim err xs (be n X.toNat)).2 ∧ Fr b v w w' v' := by
  have N := number_any h k X.toNat n (by omega) hs
  rw [show ((X.toNat : Nat) : Int) = X by omega, ← hn] at N
  exact N
theorem u16_any (h : Wr w b lim err v xs) (k : Ok lim xs) (X : Int) (h0 : 0 ≤ X) (hx : X < 65536) : Wrote 174 b (.int .u16 X) lim err v xs (be 2 X.toNat) w := by
  have N := number_int h k X 2 2 rfl h0 (by omega) (by omega)
  generalize be 2 X.toNat = ys at *
  show Calls _ _ _ _ _
  go_enter Try.func174, Try.ntmps174
  go_wp2_with fail
  refine N.mono ?_; rintro e w' ⟨rfl, hr⟩
  go_wp2
  go_end0
  exact ⟨rfl, hr⟩
theorem u64_any (h : Wr w b lim err v xs) (k : Ok lim xs) (X : Int) (h0 : 0 ≤ X) (hx : X < 18446744073709551616) : Wrote 173 b (.int .u64 X) lim err v xs (be 8 X.toNat) w := by
  have N := number_int h k X 8 8 rfl h0 (by omega) (by omega)
  generalize be 8 X.toNat = ys at *
  show Calls _ _ _ _ _
  go_enter Try.func173, Try.ntmps173
  go_wp2_with fail
  refine N.mono ?_; rintro e w' ⟨rfl, hr⟩
  go_wp2
  go_end0
  exact ⟨rfl, hr⟩
end
section
variable {w : World} {b : Nat} {lim err : Int} {v : Value} {xs : List Int}

/-- a slice that can be read: nil, or a window -/
def Rd (w : World) (v : Value) (xs : List Int) : Prop :=
  (v = .slice none 0 0 ∧ xs = []) ∨ ∃ a cap, v = .slice (some a) xs.length cap ∧ ∀ j u, (cs xs)[j]? = some u → w.cell? (a.add j) = some u

theorem Rd.slice {v : Value} (h : Rd w v xs) : ∃ ad cap, v = .slice ad xs.length cap := by
  rcases h with ⟨rfl, rfl⟩ | ⟨a, cap, rfl, _⟩
  · exact ⟨none, 0, rfl⟩
  · exact ⟨some a, cap, rfl⟩

theorem cs_one (xs : List Int) : ∀ u ∈ cs xs, u.oneCell' = true := by
  intro u hu
  simp only [cs, List.mem_map] at hu
  obtain ⟨a, _, rfl⟩ := hu
  rfl

theorem Rd.of_own {n : Nat} (h : w.ownsRow 0 5 1 v n (cs xs)) (hn : n = xs.length) : Rd w v xs := by
  subst hn
  rcases h.2 with ⟨rfl, h0⟩ | ⟨g, cap, cur, rfl, hb, hg, _⟩
  · exact .inl ⟨rfl, List.eq_nil_of_length_eq_zero h0⟩
  · exact .inr ⟨⟨g, 0, none⟩, cap, rfl, h.cells rfl⟩

theorem made_row {w1 : World} {base g n : Nat} {l : List Value} (h : w1.ownsRow base 5 1 (.slice (some ⟨g, 0, none⟩) n n) n l) : ∃ cur : List Value, Hid (w1.heap[g]? = some (.cells cur.toArray 5 (0, 0))) ∧ Hid (cur.length = n) := by
  rcases h.2 with ⟨e, _⟩ | ⟨g', cap, cur, e, _, hg, _, _, hs, _⟩
  · cases e
  · cases e
    exact ⟨cur.toList, hg, by simpa [Hid] using hs⟩
theorem splice_all {α : Type} (L ys : List α) (h : L.length = ys.length) : splice L 0 ys = ys := by simp [splice, ← h]
theorem sz5 : (Try.prog.info? 5).map (·.size) = some 1 := by kernel_rfl

def Nu : Nat → Prop := fun _ => False

set_option maxRecDepth 100000 in
set_option maxHeartbeats 400000 in
/-- own: a copy in new memory -/
theorem own_any (h : Rd w v xs) (hb : xs.length ≤ 140737488355328) :
    Calls Try.prog 203 #[v] w fun e w' => e = .returned (.slice (some ⟨w.heap.size, 0, none⟩) xs.length xs.length) ∧ w'.heap[w.heap.size]? = some (.cells (cs xs).toArray 5 (0, 0)) ∧ Kp Nu w w' := by
  obtain ⟨i0, hi, hz0, hz1, hz2⟩ := info_parts info5
  have HB := hide hb
  clear hb
  have hpos : 0 < (cs xs).length → ∀ ad n cap, v = .slice ad n cap → ∃ a, ad = some a ∧ ∀ j u, (cs xs)[j]? = some u → w.cell? (a.add j) = some u := by
    intro h0 ad n cap hv
    rcases h with ⟨rfl, rfl⟩ | ⟨a, cap', rfl, hc⟩
    · simp [cs] at h0
    · cases hv; exact ⟨a, rfl, hc⟩
  obtain ⟨ad, cap, rfl⟩ := h.slice
  have HP := hide hpos
  clear hpos
  generalize hn : xs.length = n at *
  have HNN := hide hn
  clear hn
  have A1 : Hid (i0.bytes * n ≤ 281474976710656) := by
    have := HB.out
    show _ ≤ _
    rw [hz2]; omega
  have A2 : Hid (n ≤ maxLen) := by
    have := HB.out
    show _ ≤ _
    unfold maxLen; omega
  have B1 : Hid ((cs xs).length = Nat.min n n) := by
    show _ = _
    rw [cs_length, HNN.out]
    exact (Nat.min_self n).symm
  have B2 : ∀ w1, Hid (Kp (fun k => some k = (none : Option Nat)) w w1) → Hid (0 < (cs xs).length → ∃ a, ad = some a ∧ ∀ j u, (cs xs)[j]? = some u → w1.cell? (a.add j) = some u) := by
    intro w1 HL h0
    obtain ⟨a, rfl, hc⟩ := HP.out h0 _ _ _ rfl
    refine ⟨a, rfl, fun j u hj => ?_⟩
    have := hc j u hj
    exact (World.cell?_of_block (HL.out.block _ (World.block_lt_of_cell? w _ this) (by simp))).trans this
  have B3 : ∀ cur : List Value, Hid (cur.length = n) → Hid (0 + (cs xs).length ≤ cur.length) := by
    intro cur hc
    show _ ≤ _
    rw [cs_length, HNN.out, hc.out]; omega
  have B4 : ∀ w1, Hid (Kp (fun k => some k = (none : Option Nat)) w w1) → Below w.heap.size w w1 :=
    fun w1 HL => ⟨HL.out.os, HL.out.tape, HL.out.output, HL.out.size, fun k hk => HL.out.block k hk (by simp)⟩
  go_enter Try.func203, Try.ntmps203
  go_wp2_with (first
    | (at_make; refine wpList_make_full _ rfl _ _ 74 rfl w.heap.size 5 i0 _ 1 Try.underlying74 hi hz0 hz1 .i64 .i64 _ _ n rfl rfl rfl rfl A1.out A2.out (Nat.le_refl _) ?_; intro w1 hown hgrow; obtain ⟨cur, HG, HC⟩ := made_row hown; have HL := hide (Kp.of_grown hgrow); clear hown hgrow)
    | (guard_target =~ wpList _ _ _ ({ dst := some 9, op := Op.call { callee := Callee.builtin Builtin.copy, args := _, argTypes := _ }, type := _, pos := _, after := _, guard := _ } :: _) _ _; refine wpList_copy_splice rfl _ _ 74 74 rfl 5 Try.underlying74 sz5 _ _ n n n cap rfl rfl w.heap.size 0 cur 5 HG.out (cs xs) B1.out (fun h0 => ⟨rfl, (B2 _ HL).out h0⟩) (B3 _ HC).out (cs_one xs) w.heap.size w (B4 _ HL) (Nat.le_refl _) ?_; intro w2 HG2 hB2))
  go_ret
  have hl := HC.out
  have hn := HNN.out
  have hg2 := HG2.out
  rw [splice_all cur (cs xs) (by rw [cs_length]; omega)] at hg2
  exact ⟨rfl, hg2, ⟨hB2.os, hB2.tape, hB2.output, hB2.size, fun k hk _ => hB2.block k hk⟩⟩
end
/-- where a slice lies -/
def at? : Value → Option Nat
  | .slice (some a) _ _ => some a.block
  | _ => none

section
variable {w : World} {b : Nat} {lim err : Int} {v : Value} {xs : List Int}

theorem add_block (a : Addr) (j : Nat) : (a.add j).block = a.block := by
  unfold Addr.add
  first | rfl | (split <;> rfl)
theorem Rd.drew {u : Value} {ys : List Int} (h : Rd w u ys) : Rd w.drew u ys := h
theorem Rd.keeps {S : Nat → Prop} {w' : World} {u : Value} {ys : List Int} (h : Rd w u ys) (k : Kp S w w') (hS : ∀ g, at? u = some g → ¬ S g) : Rd w' u ys := by
  rcases h with ⟨rfl, rfl⟩ | ⟨a, cap, rfl, hc⟩
  · exact .inl ⟨rfl, rfl⟩
  · refine .inr ⟨a, cap, rfl, fun j x hj => ?_⟩
    have := hc j x hj
    exact (World.cell?_of_block (k.block _ (World.block_lt_of_cell? w _ this) (by rw [add_block]; exact hS _ rfl))).trans this

theorem newWriter_ok (w : World) (n : Int) (h0 : 0 ≤ n) (h1 : n ≤ 16777216) : Calls Try.prog 172 #[.int .i64 n] w fun e w' => e = .returned (.tuple #[.pointer (some ⟨w.heap.size, 0, none⟩), .int .i64 0]) ∧ Wr w' w.heap.size n 0 (.slice none 0 0) [] ∧ Kp Nu w w' := by
  have h2 : ¬ n > 16777216 := by omega
  have h3 : ¬ n < 0 := by omega
  go_enter Try.func172, Try.ntmps172
  go_wp2
  go_ret2
  refine ⟨rfl, ⟨?_, World.ownsRow_nil _ _ _ _⟩, Kp.alloc _ _ _⟩
  exact heap_alloc_new w _

theorem out_ok (h : Wr w b lim 0 v xs) (k : Ok lim xs) : Calls Try.prog 176 #[.pointer (some ⟨b, 0, none⟩)] w fun e w' => e = .returned (.tuple #[.slice (some ⟨w.heap.size, 0, none⟩) xs.length xs.length, .int .i64 0]) ∧ w'.heap[w.heap.size]? = some (.cells (cs xs).toArray 5 (0, 0)) ∧ Kp Nu w w' := by
  obtain ⟨c0, c1, c2⟩ := cell3 h.blk
  have O := own_any (Rd.of_own h.own rfl) (by have := k.hi; have := k.le; omega)
  go_enter Try.func176, Try.ntmps176
  go_wp2_with fail
  refine (err_any h).mono ?_; rintro e w' ⟨rfl, rfl⟩
  go_wp2_with fail
  refine O.mono ?_; rintro e w' ⟨rfl, ho, hk⟩
  go_wp2
  go_ret2
  exact ⟨rfl, ho, hk⟩

set_option maxRecDepth 100000 in
set_option maxHeartbeats 400000 in
theorem raw_any (h : Wr w b lim err v xs) (k : Ok lim xs) {u : Value} {ys : List Int} (hr : Rd w u ys) : Wrote 175 b u lim err v xs ys w := by
  obtain ⟨i0, hi, hz0, hz1, hz2⟩ := info_parts info5
  obtain ⟨c0, c1, c2⟩ := cell3 h.blk
  show Calls _ _ _ _ _
  by_cases he : err = 0
  · subst he
    by_cases hf : (ys.length : Int) ≤ lim - (xs.length : Int)
    · have F := fits_yes h (ys.length : Int) k.lo k.hi (by have := k.le; have := k.hi; omega) hf
      have e : put lim 0 xs ys = (0, xs ++ ys) := by simp only [put, if_pos hf, if_true]
      have HN : Hid (xs.length + ys.length ≤ 16777216) := by
        have := k.hi
        show _ ≤ _
        omega
      rw [e]
      clear hf e
      have hlt := ownLt h.drew.own
      rcases hr with ⟨rfl, rfl⟩ | ⟨a, cap, rfl, hc⟩
      · have hb2 := free3 h.drew.blk 1
        have hst := h.drew.store (Gr.refl _ _) h.drew.own
        have hrow := h.drew.own
        obtain ⟨ad', n', cap', rfl⟩ := own_slice' h.own
        rw [List.append_nil]
        go_enter Try.func175, Try.ntmps175
        go_wp2_with fail
        refine F.mono ?_; rintro e w' ⟨rfl, rfl⟩
        go_wp2_with (at_builtin; refine wpList_append_own_none rfl _ _ 74 rfl 0 5 i0 1 Try.underlying74 hi _ _ _ rfl hrow rfl ?_)
        go_end0
        exact ⟨rfl, _, hst.1, hst.2.drew⟩
      · have HC := hide hc
        clear hc
        have hw := h.drew
        have hrow := h.drew.own
        have hln := cs_length ys
        go_enter Try.func175, Try.ntmps175
        go_wp2_with fail
        refine F.mono ?_; rintro e w' ⟨rfl, rfl⟩
        go_wp2_with (at_builtin; refine wpList_append_own_at _ rfl _ _ 74 rfl 0 5 i0 _ 1 1 Try.underlying74 hi hz0 hz1 hz2 rfl (by decide) _ _ _ rfl hrow a ys.length cap (cs ys) rfl (by rw [cs_length]; omega) HC.out (cs_one ys) (by have := HN.out; unfold maxLen; omega) (by have := HN.out; omega) (Nat.zero_le _) ?_; intro v' w1 hown' hgrow _ hat; have hg : Gr v w.drew w1 v' := ⟨Kp.of_grown hgrow, hat.imp id (fun e => ⟨_, Nat.le_refl _, e⟩)⟩; have ho : w1.ownsRow 0 5 1 v' (xs ++ ys).length (cs (xs ++ ys)) := (by rw [cs_append, List.length_append]; exact hown'); obtain ⟨hb3, hb4, hb5⟩ := cell3 (h.drew.blk1 hg); have hb2 := free3 (h.drew.blk1 hg) 1; have hst := h.drew.store hg ho; clear hown' hgrow hat; obtain ⟨ad', n', cap', rfl⟩ := own_slice' ho)
        go_end0
        exact ⟨rfl, _, hst.1, hst.2.drew⟩
    · have F := fits_no h (ys.length : Int) k.lo k.hi (by have := k.le; have := k.hi; omega) (by omega)
      have e : put lim 0 xs ys = (20, xs) := by simp only [put, if_neg hf, if_true]
      rw [e]
      clear hf e
      obtain ⟨ad', cap', rfl⟩ := hr.slice
      go_enter Try.func175, Try.ntmps175
      go_wp2_with fail
      refine F.mono ?_; rintro e w' ⟨rfl, hw, hfr⟩
      go_wp2
      go_end0
      exact ⟨rfl, v, hw, hfr⟩
  · have F := fits_err h (by simpa using he) (ys.length : Int)
    have e : put lim err xs ys = (err, xs) := by simp only [put, if_neg he]
    rw [e]
    clear e
    obtain ⟨ad', cap', rfl⟩ := hr.slice
    go_enter Try.func175, Try.ntmps175
    go_wp2_with fail
    refine F.mono ?_; rintro e w' ⟨rfl, rfl⟩
    go_wp2
    go_end0
    exact ⟨rfl, v, h, Fr.refl _ _ _⟩

end
end Go.Proofs.Ytchealdgncgjoaa.Cd
