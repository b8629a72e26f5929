import Derived.Test.YtgaehpdlljlliaaCrA
import Derived.Test.YtgaehpdlljlliaaCrD
namespace Go.Proofs.Ytgaehpdlljlliaa.Cd
open Go.RowKit
set_option linter.unusedVariables false

theorem cell5 {w : World} {b : Nat} {x0 x1 x2 x3 x4 : Value} {t : TypeId} (h : w.heap[b]? = some (.cells #[x0, x1, x2, x3, x4] t (0, 0))) :
    w.cell? ⟨b, 0, none⟩ = some x0 ∧ w.cell? ⟨b, 1, none⟩ = some x1 ∧ w.cell? ⟨b, 2, none⟩ = some x2 ∧ w.cell? ⟨b, 3, none⟩ = some x3 ∧ w.cell? ⟨b, 4, none⟩ = some x4 := by
  refine ⟨?_, ?_, ?_, ?_, ?_⟩ <;> simp [World.cell?, h]

/-- the bytes of a thing -/
def tb (t : Stp) : List Int :=
  if t.kind = 1 then be 1 (t.N % 256).toNat else if t.kind = 2 then be 2 (t.N % 65536).toNat else if t.kind = 3 then be 4 (t.N % 4294967296).toNat else if t.kind = 4 then be 8 t.N.toNat else
  if t.kind = 5 then va t.N.toNat else if t.kind = 6 then va (zz t.I).toNat else if t.kind = 7 then [if t.F then 1 else 0] else if t.kind = 8 then t.bs else va t.bs.length ++ t.bs

/-- what lay leaves -/
def layS (lim err : Int) (xs : List Int) (t : Stp) : Int × List Int := if isT t.kind then put lim err xs (tb t) else (err, xs)

theorem Rd.keeps' {S : Nat → Prop} {w w' : World} {u : Value} {ys : List Int} (h : Rd w u ys) (k : Kp S w w') (hS : ys ≠ [] → ∀ g, at? u = some g → ¬ S g) : Rd w' u ys := by
  by_cases h0 : ys = []
  · subst h0
    rcases h with ⟨rfl, _⟩ | ⟨a, cap, rfl, hc⟩
    · exact .inl ⟨rfl, rfl⟩
    · exact .inr ⟨a, cap, rfl, fun j x hj => by simp [cs] at hj⟩
  · exact h.keeps k (hS h0)

/-- ahead of the writing call -/
structure Mid (w w1 : World) (b : Nat) (lim err : Int) (v : Value) (xs : List Int) (t : Stp) (v1 : Value) : Prop where
  wr : Wr w1 b lim err v xs
  box : w1.heap[w.heap.size]? = some (.cells #[.int .i64 t.kind, .int .u64 t.N, .int .i64 t.I, .bool t.F, t.bv] 40 (0, 0))
  rd : Rd w1 t.bv t.bs
  hd : Hd w1 (w.heap.size + 1) t.bv v1 t.bs
  kp : Kp Nu w w1

theorem mid_of {w w1 : World} {b : Nat} {lim err : Int} {v : Value} {xs : List Int} {t : Stp} {v1 : Value} (h : Wr w b lim err v xs) (f : Fit w t) (hh : Hd w1 (w.alloc (.cells #[.int .i64 t.kind, .int .u64 t.N, .int .i64 t.I, .bool t.F, t.bv] 40)).heap.size t.bv v1 t.bs)
    (k : Kp Nu (w.alloc (.cells #[.int .i64 t.kind, .int .u64 t.N, .int .i64 t.I, .bool t.F, t.bv] 40)) w1) : Mid w w1 b lim err v xs t v1 := by
  have k2 := (Kp.alloc w (.cells #[.int .i64 t.kind, .int .u64 t.N, .int .i64 t.I, .bool t.F, t.bv] 40) Nu).trans k (fun _ _ h => h)
  refine ⟨h.keeps k2 (fun h => h) (fun _ _ h => h), ?_, f.rd.keeps k2 (fun _ _ h => h), by simpa using hh, k2⟩
  exact (k.block _ (by simp) (fun h => h)).trans (heap_alloc_new w _)

theorem Mid.cell4 {w w1 w2 : World} {b : Nat} {lim err : Int} {v v' : Value} {xs : List Int} {t : Stp} {v1 : Value} (m : Mid w w1 b lim err v xs t v1) (hw : Wr w b lim err v xs) (fr : Fr b v w1 w2 v') :
    w2.cell? ⟨w.heap.size, 4, none⟩ = some t.bv := by
  have hlt := hw.lt
  have hown := fun g hg => (hw.own.lt g hg).2
  have hb : w2.heap[w.heap.size]? = _ := (fr.kp.block _ (by have := block_lt m.box; exact this) (by
    rintro (e | e)
    · omega
    · have := hown _ e.symm; omega)).trans m.box
  exact (cell5 hb).2.2.2.2

theorem Mid.keptC {w w1 w2 : World} {b : Nat} {lim err q : Int} {v v' : Value} {xs ys : List Int} {t : Stp} {v1 : Value} (m : Mid w w1 b lim err v xs t v1) (hw : Wr w b lim err v xs) (hf : Fit w t) (hsep : t.bs ≠ [] → ∀ g, at? t.bv = some g → ¬ fp b v g)
    (h2 : Wr w2 b lim q v' ys) (fr : Fr b v w1 w2 v') :
    Calls Try.prog 20 #[v1, t.bv] w2 fun e w' => e = .returned (.bool true) ∧ (∃ v', Wr w' b lim q v' ys ∧ Fr b v w w' v') := by
  have hlt := hw.lt
  have hown := fun g hg => (hw.own.lt g hg).2
  have hr : Rd w2 t.bv t.bs := m.rd.keeps' fr.kp hsep
  have hh : Hd w2 (w.heap.size + 1) t.bv v1 t.bs := by
    rcases m.hd with h | ⟨h1, h2, h3⟩
    · exact .inl h
    · refine .inr ⟨h1, h2, (fr.kp.block _ (block_lt h3) ?_).trans h3⟩
      rintro (e | e)
      · omega
      · have := hown _ e.symm; omega
  refine (kept_any hr hh (by have := hf.len; omega)).mono ?_
  rintro e w3 ⟨rfl, k3⟩
  refine ⟨rfl, v', h2.keeps k3 (fun h => h) (fun _ _ h => h), ⟨?_, ?_⟩⟩
  · exact (m.kp.mono (fun _ _ h => h.elim)).trans (fr.kp.trans k3 (fun _ _ h => h.elim)) (fun _ _ h => h)
  · rcases fr.lie with e | ⟨g, hg, e⟩
    · exact .inl e
    · exact .inr ⟨g, Nat.le_trans m.kp.size hg, e⟩

set_option maxHeartbeats 4000000 in
theorem lay_any {w : World} {b : Nat} {lim err : Int} {v : Value} {xs : List Int} (h : Wr w b lim err v xs) (k : Ok lim xs) (t : Stp) (f : Fit w t) (hsep : t.bs ≠ [] → ∀ g, at? t.bv = some g → ¬ fp b v g) :
    Calls Try.prog 15 #[.pointer (some ⟨b, 0, none⟩), t.agg] w fun e w' => e = .returned (.bool true) ∧ ∃ v', Wr w' b lim (layS lim err xs t).1 v' (layS lim err xs t).2 ∧ Fr b v w w' v' := by
  have H := handed_any (f.rd.keeps (Kp.alloc w (.cells #[.int .i64 t.kind, .int .u64 t.N, .int .i64 t.I, .bool t.F, t.bv] 40) Nu) (fun _ _ h => h)) (by have := f.len; omega)
  have M := fun w1 v1 hh kk => mid_of (w1 := w1) (v1 := v1) h f hh kk
  have n0 := f.n0
  have n1 := f.n1
  have KC := fun w1 w2 v1 v' q ys (m : Mid w w1 b lim err v xs t v1) => m.keptC (w2 := w2) (v' := v') (q := q) (ys := ys) h f hsep
  have C4 := fun w1 w2 v1 v' (m : Mid w w1 b lim err v xs t v1) => m.cell4 (w2 := w2) (v' := v') h
  have i0 := f.i0
  have i1 := f.i1
  have hle := f.len
  obtain ⟨ad, cap, hbv⟩ := f.rd.slice
  have hlt := h.lt
  have hown := fun g hg => (h.own.lt g hg).2
  obtain ⟨kind, N, I, F, bv, bs⟩ := t
  simp only [Stp.agg] at *
  have hat : ∀ (w1 : World) (v1 : Value), Hd w1 (w.heap.size + 1) bv v1 bs → Rd w1 v1 bs ∧ ∀ g, at? v1 = some g → some g ≠ v.ownBlock := by
    intro w1 v1 hh
    rcases hh with ⟨_, rfl, rfl⟩ | ⟨_, rfl, hg⟩
    · exact ⟨.inl ⟨rfl, rfl⟩, fun g hg => by cases hg⟩
    · refine ⟨.inr ⟨_, _, rfl, fun j u hj => ?_⟩, fun g hg => ?_⟩
      · rw [addo]
        have : (cs (bs ++ marks))[j]? = some u := by
          rw [cs_append, List.getElem?_append_left (by rcases List.getElem?_eq_some_iff.1 hj with ⟨h, _⟩; exact h)]
          exact hj
        simpa [World.cell?, hg] using this
      · have : w.heap.size + 1 = g := by simpa [at?] using hg
        intro e
        have := hown g e.symm
        omega
  subst hbv
  clear hown hlt hsep f
  by_cases h1 : kind = 1
  · subst h1
    have T := fun w1 v1 (hw : Wr w1 b lim err v xs) (hd : Hd w1 (w.heap.size + 1) (.slice ad bs.length cap) v1 bs) => u8_any hw k (N % 256) (by omega) (by omega)
    have e : layS lim err xs { kind := 1, N := N, I := I, F := F, bv := .slice ad bs.length cap, bs := bs } = put lim err xs (be 1 (N % 256).toNat) := by simp [layS, isT, tb]
    rw [e]
    generalize (be 1 (N % 256).toNat) = ys at *
    clear e hat n0 n1 i0 i1 hle
    go_enter Try.func15, Try.ntmps15
    go_wp2_with fail
    refine H.mono ?_; rintro e w1 ⟨v1, rfl, hd1, k1⟩
    have m := M w1 v1 hd1 k1
    obtain ⟨b0, b1, b2, b3, b4⟩ := cell5 m.box
    have C := T w1 v1 m.wr m.hd
    have KC' := fun w2 v' q ys => KC w1 w2 v1 v' q ys m
    have C4' := fun w2 v' => C4 w1 w2 v1 v' m
    clear KC C4 M H T hd1 k1 m h
    go_wp2_with fail
    refine Calls.mono C ?_; rintro e w2 ⟨rfl, v', hw2, fr⟩
    have c4 := C4' _ _ fr
    have KD := KC' _ _ _ _ hw2 fr
    clear C4' KC' hw2 fr b0 b1 b2 b3 b4
    go_wp2_with fail
    refine KD.mono ?_; rintro e w3 ⟨rfl, hr⟩
    go_wp2
    go_ret
    exact ⟨rfl, hr⟩
  by_cases h2 : kind = 2
  · subst h2
    have T := fun w1 v1 (hw : Wr w1 b lim err v xs) (hd : Hd w1 (w.heap.size + 1) (.slice ad bs.length cap) v1 bs) => u16_any hw k (N % 65536) (by omega) (by omega)
    have e : layS lim err xs { kind := 2, N := N, I := I, F := F, bv := .slice ad bs.length cap, bs := bs } = put lim err xs (be 2 (N % 65536).toNat) := by simp [layS, isT, tb]
    rw [e]
    generalize (be 2 (N % 65536).toNat) = ys at *
    clear e hat n0 n1 i0 i1 hle
    go_enter Try.func15, Try.ntmps15
    go_wp2_with fail
    refine H.mono ?_; rintro e w1 ⟨v1, rfl, hd1, k1⟩
    have m := M w1 v1 hd1 k1
    obtain ⟨b0, b1, b2, b3, b4⟩ := cell5 m.box
    have C := T w1 v1 m.wr m.hd
    have KC' := fun w2 v' q ys => KC w1 w2 v1 v' q ys m
    have C4' := fun w2 v' => C4 w1 w2 v1 v' m
    clear KC C4 M H T hd1 k1 m h
    go_wp2_with fail
    refine Calls.mono C ?_; rintro e w2 ⟨rfl, v', hw2, fr⟩
    have c4 := C4' _ _ fr
    have KD := KC' _ _ _ _ hw2 fr
    clear C4' KC' hw2 fr b0 b1 b2 b3 b4
    go_wp2_with fail
    refine KD.mono ?_; rintro e w3 ⟨rfl, hr⟩
    go_wp2
    go_ret
    exact ⟨rfl, hr⟩
  by_cases h3 : kind = 3
  · subst h3
    have T := fun w1 v1 (hw : Wr w1 b lim err v xs) (hd : Hd w1 (w.heap.size + 1) (.slice ad bs.length cap) v1 bs) => u32_any hw k (N % 4294967296) (by omega) (by omega)
    have e : layS lim err xs { kind := 3, N := N, I := I, F := F, bv := .slice ad bs.length cap, bs := bs } = put lim err xs (be 4 (N % 4294967296).toNat) := by simp [layS, isT, tb]
    rw [e]
    generalize (be 4 (N % 4294967296).toNat) = ys at *
    clear e hat n0 n1 i0 i1 hle
    go_enter Try.func15, Try.ntmps15
    go_wp2_with fail
    refine H.mono ?_; rintro e w1 ⟨v1, rfl, hd1, k1⟩
    have m := M w1 v1 hd1 k1
    obtain ⟨b0, b1, b2, b3, b4⟩ := cell5 m.box
    have C := T w1 v1 m.wr m.hd
    have KC' := fun w2 v' q ys => KC w1 w2 v1 v' q ys m
    have C4' := fun w2 v' => C4 w1 w2 v1 v' m
    clear KC C4 M H T hd1 k1 m h
    go_wp2_with fail
    refine Calls.mono C ?_; rintro e w2 ⟨rfl, v', hw2, fr⟩
    have c4 := C4' _ _ fr
    have KD := KC' _ _ _ _ hw2 fr
    clear C4' KC' hw2 fr b0 b1 b2 b3 b4
    go_wp2_with fail
    refine KD.mono ?_; rintro e w3 ⟨rfl, hr⟩
    go_wp2
    go_ret
    exact ⟨rfl, hr⟩
  by_cases h4 : kind = 4
  · subst h4
    have T := fun w1 v1 (hw : Wr w1 b lim err v xs) (hd : Hd w1 (w.heap.size + 1) (.slice ad bs.length cap) v1 bs) => u64_any hw k N n0 n1
    have e : layS lim err xs { kind := 4, N := N, I := I, F := F, bv := .slice ad bs.length cap, bs := bs } = put lim err xs (be 8 N.toNat) := by simp [layS, isT, tb]
    rw [e]
    generalize (be 8 N.toNat) = ys at *
    clear e hat n0 n1 i0 i1 hle
    go_enter Try.func15, Try.ntmps15
    go_wp2_with fail
    refine H.mono ?_; rintro e w1 ⟨v1, rfl, hd1, k1⟩
    have m := M w1 v1 hd1 k1
    obtain ⟨b0, b1, b2, b3, b4⟩ := cell5 m.box
    have C := T w1 v1 m.wr m.hd
    have KC' := fun w2 v' q ys => KC w1 w2 v1 v' q ys m
    have C4' := fun w2 v' => C4 w1 w2 v1 v' m
    clear KC C4 M H T hd1 k1 m h
    go_wp2_with fail
    refine Calls.mono C ?_; rintro e w2 ⟨rfl, v', hw2, fr⟩
    have c4 := C4' _ _ fr
    have KD := KC' _ _ _ _ hw2 fr
    clear C4' KC' hw2 fr b0 b1 b2 b3 b4
    go_wp2_with fail
    refine KD.mono ?_; rintro e w3 ⟨rfl, hr⟩
    go_wp2
    go_ret
    exact ⟨rfl, hr⟩
  by_cases h5 : kind = 5
  · subst h5
    have T := fun w1 v1 (hw : Wr w1 b lim err v xs) (hd : Hd w1 (w.heap.size + 1) (.slice ad bs.length cap) v1 bs) => varint_any hw k N n0 n1
    have e : layS lim err xs { kind := 5, N := N, I := I, F := F, bv := .slice ad bs.length cap, bs := bs } = put lim err xs (va N.toNat) := by simp [layS, isT, tb]
    rw [e]
    generalize (va N.toNat) = ys at *
    clear e hat n0 n1 i0 i1 hle
    go_enter Try.func15, Try.ntmps15
    go_wp2_with fail
    refine H.mono ?_; rintro e w1 ⟨v1, rfl, hd1, k1⟩
    have m := M w1 v1 hd1 k1
    obtain ⟨b0, b1, b2, b3, b4⟩ := cell5 m.box
    have C := T w1 v1 m.wr m.hd
    have KC' := fun w2 v' q ys => KC w1 w2 v1 v' q ys m
    have C4' := fun w2 v' => C4 w1 w2 v1 v' m
    clear KC C4 M H T hd1 k1 m h
    go_wp2_with fail
    refine Calls.mono C ?_; rintro e w2 ⟨rfl, v', hw2, fr⟩
    have c4 := C4' _ _ fr
    have KD := KC' _ _ _ _ hw2 fr
    clear C4' KC' hw2 fr b0 b1 b2 b3 b4
    go_wp2_with fail
    refine KD.mono ?_; rintro e w3 ⟨rfl, hr⟩
    go_wp2
    go_ret
    exact ⟨rfl, hr⟩
  by_cases h6 : kind = 6
  · subst h6
    have T := fun w1 v1 (hw : Wr w1 b lim err v xs) (hd : Hd w1 (w.heap.size + 1) (.slice ad bs.length cap) v1 bs) => signed_any hw k I i0 i1
    have e : layS lim err xs { kind := 6, N := N, I := I, F := F, bv := .slice ad bs.length cap, bs := bs } = put lim err xs (va (zz I).toNat) := by simp [layS, isT, tb]
    rw [e]
    generalize (va (zz I).toNat) = ys at *
    clear e hat n0 n1 i0 i1 hle
    go_enter Try.func15, Try.ntmps15
    go_wp2_with fail
    refine H.mono ?_; rintro e w1 ⟨v1, rfl, hd1, k1⟩
    have m := M w1 v1 hd1 k1
    obtain ⟨b0, b1, b2, b3, b4⟩ := cell5 m.box
    have C := T w1 v1 m.wr m.hd
    have KC' := fun w2 v' q ys => KC w1 w2 v1 v' q ys m
    have C4' := fun w2 v' => C4 w1 w2 v1 v' m
    clear KC C4 M H T hd1 k1 m h
    go_wp2_with fail
    refine Calls.mono C ?_; rintro e w2 ⟨rfl, v', hw2, fr⟩
    have c4 := C4' _ _ fr
    have KD := KC' _ _ _ _ hw2 fr
    clear C4' KC' hw2 fr b0 b1 b2 b3 b4
    go_wp2_with fail
    refine KD.mono ?_; rintro e w3 ⟨rfl, hr⟩
    go_wp2
    go_ret
    exact ⟨rfl, hr⟩
  by_cases h7 : kind = 7
  · subst h7
    have T := fun w1 v1 (hw : Wr w1 b lim err v xs) (hd : Hd w1 (w.heap.size + 1) (.slice ad bs.length cap) v1 bs) => flag_any hw k F
    have e : layS lim err xs { kind := 7, N := N, I := I, F := F, bv := .slice ad bs.length cap, bs := bs } = put lim err xs ([if F then 1 else 0] : List Int) := by simp [layS, isT, tb]
    rw [e]
    generalize ([if F then 1 else 0] : List Int) = ys at *
    clear e hat n0 n1 i0 i1 hle
    go_enter Try.func15, Try.ntmps15
    go_wp2_with fail
    refine H.mono ?_; rintro e w1 ⟨v1, rfl, hd1, k1⟩
    have m := M w1 v1 hd1 k1
    obtain ⟨b0, b1, b2, b3, b4⟩ := cell5 m.box
    have C := T w1 v1 m.wr m.hd
    have KC' := fun w2 v' q ys => KC w1 w2 v1 v' q ys m
    have C4' := fun w2 v' => C4 w1 w2 v1 v' m
    clear KC C4 M H T hd1 k1 m h
    go_wp2_with fail
    refine Calls.mono C ?_; rintro e w2 ⟨rfl, v', hw2, fr⟩
    have c4 := C4' _ _ fr
    have KD := KC' _ _ _ _ hw2 fr
    clear C4' KC' hw2 fr b0 b1 b2 b3 b4
    go_wp2_with fail
    refine KD.mono ?_; rintro e w3 ⟨rfl, hr⟩
    go_wp2
    go_ret
    exact ⟨rfl, hr⟩
  by_cases h8 : kind = 8
  · subst h8
    have T := fun w1 v1 (hw : Wr w1 b lim err v xs) (hd : Hd w1 (w.heap.size + 1) (.slice ad bs.length cap) v1 bs) => raw_any hw k (hat w1 v1 hd).1
    have e : layS lim err xs { kind := 8, N := N, I := I, F := F, bv := .slice ad bs.length cap, bs := bs } = put lim err xs (bs) := by simp [layS, isT, tb]
    rw [e]
    clear e hat n0 n1 i0 i1 hle
    go_enter Try.func15, Try.ntmps15
    go_wp2_with fail
    refine H.mono ?_; rintro e w1 ⟨v1, rfl, hd1, k1⟩
    have m := M w1 v1 hd1 k1
    obtain ⟨b0, b1, b2, b3, b4⟩ := cell5 m.box
    have C := T w1 v1 m.wr m.hd
    have KC' := fun w2 v' q ys => KC w1 w2 v1 v' q ys m
    have C4' := fun w2 v' => C4 w1 w2 v1 v' m
    clear KC C4 M H T hd1 k1 m h
    go_wp2_with fail
    refine Calls.mono C ?_; rintro e w2 ⟨rfl, v', hw2, fr⟩
    have c4 := C4' _ _ fr
    have KD := KC' _ _ _ _ hw2 fr
    clear C4' KC' hw2 fr b0 b1 b2 b3 b4
    go_wp2_with fail
    refine KD.mono ?_; rintro e w3 ⟨rfl, hr⟩
    go_wp2
    go_ret
    exact ⟨rfl, hr⟩
  by_cases h9 : kind = 9
  · subst h9
    have T := fun w1 v1 (hw : Wr w1 b lim err v xs) (hd : Hd w1 (w.heap.size + 1) (.slice ad bs.length cap) v1 bs) => block_any hw k (hat w1 v1 hd).1 (by omega) (hat w1 v1 hd).2
    have e : layS lim err xs { kind := 9, N := N, I := I, F := F, bv := .slice ad bs.length cap, bs := bs } = put lim err xs (va bs.length ++ bs) := by simp [layS, isT, tb]
    rw [e]
    generalize (va bs.length ++ bs) = ys at *
    clear e hat n0 n1 i0 i1 hle
    go_enter Try.func15, Try.ntmps15
    go_wp2_with fail
    refine H.mono ?_; rintro e w1 ⟨v1, rfl, hd1, k1⟩
    have m := M w1 v1 hd1 k1
    obtain ⟨b0, b1, b2, b3, b4⟩ := cell5 m.box
    have C := T w1 v1 m.wr m.hd
    have KC' := fun w2 v' q ys => KC w1 w2 v1 v' q ys m
    have C4' := fun w2 v' => C4 w1 w2 v1 v' m
    clear KC C4 M H T hd1 k1 m h
    go_wp2_with fail
    refine Calls.mono C ?_; rintro e w2 ⟨rfl, v', hw2, fr⟩
    have c4 := C4' _ _ fr
    have KD := KC' _ _ _ _ hw2 fr
    clear C4' KC' hw2 fr b0 b1 b2 b3 b4
    go_wp2_with fail
    refine KD.mono ?_; rintro e w3 ⟨rfl, hr⟩
    go_wp2
    go_ret
    exact ⟨rfl, hr⟩
  have hT : isT kind = false := by
    simp only [isT, Bool.and_eq_false_iff, decide_eq_false_iff_not]
    omega
  have e : layS lim err xs { kind := kind, N := N, I := I, F := F, bv := .slice ad bs.length cap, bs := bs } = (err, xs) := by simp [layS, hT]
  rw [e]
  clear e hat n0 n1 i0 i1 hle hT
  go_enter Try.func15, Try.ntmps15
  go_wp2_with fail
  refine H.mono ?_; rintro e w1 ⟨v1, rfl, hd1, k1⟩
  have m := M w1 v1 hd1 k1
  obtain ⟨b0, b1, b2, b3, b4⟩ := cell5 m.box
  have KD := KC w1 w1 v1 v err xs m m.wr (Fr.refl _ _ _)
  clear KC C4 M H hd1 k1 m h
  go_wp2_with fail
  refine KD.mono ?_; rintro e w3 ⟨rfl, hr⟩
  go_wp2
  go_ret
  exact ⟨rfl, hr⟩
end Go.Proofs.Ytgaehpdlljlliaa.Cd
