import Derived.Test.YtgaehpdlljlliaaCdE
namespace Go.Proofs.Ytgaehpdlljlliaa.Cd
open Go.RowKit
set_option linter.unusedVariables false

theorem cell2 {w : World} {b : Nat} {x y : Value} {t : TypeId} (h : w.heap[b]? = some (.cells #[x, y] t (0, 0))) :
    w.cell? ⟨b, 0, none⟩ = some x ∧ w.cell? ⟨b, 1, none⟩ = some y := by
  refine ⟨?_, ?_⟩ <;> simp [World.cell?, h]

/-- a window of bytes in block g -/
structure Win (w : World) (g : Nat) (v : Value) (xs : List Int) : Prop where
  is : ∃ off cap, v = .slice (some ⟨g, off, none⟩) xs.length cap ∧ xs.length ≤ cap ∧ cap ≤ 16777216 ∧ ∀ j u, (cs xs)[j]? = some u → w.cell? ((⟨g, off, none⟩ : Addr).add j) = some u

/-- a reader at block b, its bytes in block g -/
structure Rr (w : World) (b g : Nat) (err : Int) (v : Value) (xs : List Int) : Prop where
  blk : w.heap[b]? = some (.cells #[v, .int .i64 err] 86 (0, 0))
  win : Win w g v xs
  ne : g ≠ b
  glt : g < w.heap.size

def iS (b : Nat) : Nat → Prop := fun k => k = b

theorem Win.keeps {S : Nat → Prop} {w w' : World} {g : Nat} {v : Value} {xs : List Int} (h : Win w g v xs) (k : Kp S w w') (hS : ¬ S g) : Win w' g v xs := by
  obtain ⟨off, cap, rfl, h1, h2, h3⟩ := h.is
  refine ⟨off, cap, rfl, h1, h2, fun j u hj => ?_⟩
  have := h3 j u hj
  exact (World.cell?_of_block (k.block _ (World.block_lt_of_cell? w _ this) (by rw [add_block]; exact hS))).trans this
theorem Win.rd {w : World} {g : Nat} {v : Value} {xs : List Int} (h : Win w g v xs) : Rd w v xs := by
  obtain ⟨off, cap, rfl, h1, h2, h3⟩ := h.is
  exact .inr ⟨_, cap, rfl, h3⟩

section
variable {w : World} {b g : Nat} {err : Int} {v : Value} {xs : List Int}

theorem Rr.lt (h : Rr w b g err v xs) : b < w.heap.size := by
  rcases Nat.lt_or_ge b w.heap.size with hlt | hge
  · exact hlt
  · have := h.blk; rw [Array.getElem?_eq_none hge] at this; cases this
theorem Rr.keeps {S : Nat → Prop} {w' : World} (h : Rr w b g err v xs) (k : Kp S w w') (hb : ¬ S b) (hg : ¬ S g) : Rr w' b g err v xs :=
  ⟨(k.block b h.lt hb).trans h.blk, h.win.keeps k hg, h.ne, Nat.lt_of_lt_of_le h.glt k.size⟩
theorem Rr.setErr (h : Rr w b g err v xs) (q : Int) : Rr (w.setCell ⟨b, 1, none⟩ (.int .i64 q)) b g q v xs := by
  refine ⟨?_, h.win.keeps (Kp.setCell _ _ _) h.ne, h.ne, by simpa [World.setCell] using h.glt⟩
  rw [set3 h.blk]
  rfl

theorem rerr_any (h : Rr w b g err v xs) : Calls Try.prog 23 #[.pointer (some ⟨b, 0, none⟩)] w fun e w' => e = .returned (.int .i64 err) ∧ w' = w := by
  obtain ⟨c0, c1⟩ := cell2 h.blk
  go_enter Try.func23, Try.ntmps23
  go_wp2
  go_ret
  exact ⟨rfl, rfl⟩
theorem rerr_nil (w : World) : Calls Try.prog 23 #[.pointer none] w fun e w' => e = .returned (.int .i64 1) ∧ w' = w := by
  go_enter Try.func23, Try.ntmps23
  go_wp2
  go_ret
  exact ⟨rfl, rfl⟩
theorem reads_any (h : Rr w b g err v xs) : Calls Try.prog 64 #[.pointer (some ⟨b, 0, none⟩)] w fun e w' => e = .returned (.bool (err == 0)) ∧ w' = w := by
  go_enter Try.func64, Try.ntmps64
  go_wp2_with fail
  refine (rerr_any h).mono ?_; rintro e w' ⟨rfl, rfl⟩
  go_wp2
  go_ret
  exact ⟨rfl, rfl⟩
theorem reads_nil (w : World) : Calls Try.prog 64 #[.pointer none] w fun e w' => e = .returned (.bool false) ∧ w' = w := by
  go_enter Try.func64, Try.ntmps64
  go_wp2_with fail
  refine (rerr_nil _).mono ?_; rintro e w' ⟨rfl, rfl⟩
  go_wp2
  go_ret
  exact ⟨rfl, rfl⟩
theorem left_any (h : Rr w b g err v xs) : Calls Try.prog 25 #[.pointer (some ⟨b, 0, none⟩)] w fun e w' => e = .returned (.int .i64 (xs.length : Int)) ∧ w' = w := by
  obtain ⟨c0, c1⟩ := cell2 h.blk
  obtain ⟨ad, cap, rfl⟩ := h.win.rd.slice
  go_enter Try.func25, Try.ntmps25
  go_wp2
  go_ret
  exact ⟨rfl, rfl⟩
theorem left_nil (w : World) : Calls Try.prog 25 #[.pointer none] w fun e w' => e = .returned (.int .i64 0) ∧ w' = w := by
  go_enter Try.func25, Try.ntmps25
  go_wp2
  go_ret
  exact ⟨rfl, rfl⟩

/-- Fail -/
def failed (err e : Int) : Int := if err = 0 then e else err
theorem fail_any (h : Rr w b g err v xs) (q : Int) : Calls Try.prog 51 #[.pointer (some ⟨b, 0, none⟩), .int .i64 q] w fun e w' => e = .returned (.tuple #[]) ∧ Rr w' b g (failed err q) v xs ∧ Kp (iS b) w w' := by
  obtain ⟨c0, c1⟩ := cell2 h.blk
  have cf := free3 h.blk 1
  have C := reads_any h
  by_cases he : err = 0
  · subst he
    go_enter Try.func51, Try.ntmps51
    go_wp2_with fail
    refine C.mono ?_; rintro e w' ⟨rfl, rfl⟩
    go_wp2
    go_end0
    exact ⟨rfl, by simpa [failed] using h.setErr q, Kp.setCell _ ⟨b, 1, none⟩ _⟩
  · have h0 : (err == 0) = false := by simpa using he
    go_enter Try.func51, Try.ntmps51
    go_wp2_with fail
    refine C.mono ?_; rintro e w' ⟨rfl, rfl⟩
    go_wp2
    go_end0
    exact ⟨rfl, by simpa [failed, he] using h, Kp.refl _ _⟩
theorem fail_nil (w : World) (q : Int) : Calls Try.prog 51 #[.pointer none, .int .i64 q] w fun e w' => e = .returned (.tuple #[]) ∧ w' = w := by
  go_enter Try.func51, Try.ntmps51
  go_wp2_with fail
  refine (reads_nil _).mono ?_; rintro e w' ⟨rfl, rfl⟩
  go_wp2
  go_end0
  exact ⟨rfl, rfl⟩

theorem take_err (h : Rr w b g err v xs) (he : (err == 0) = false) (n : Int) : Calls Try.prog 75 #[.pointer (some ⟨b, 0, none⟩), .int .i64 n] w fun e w' => e = .returned (.slice none 0 0) ∧ w' = w := by
  have C := reads_any h
  go_enter Try.func75, Try.ntmps75
  go_wp2_with fail
  refine C.mono ?_; rintro e w' ⟨rfl, rfl⟩
  go_wp2
  go_ret
  exact ⟨rfl, rfl⟩
theorem take_nil (w : World) (n : Int) : Calls Try.prog 75 #[.pointer none, .int .i64 n] w fun e w' => e = .returned (.slice none 0 0) ∧ w' = w := by
  go_enter Try.func75, Try.ntmps75
  go_wp2_with fail
  refine (reads_nil _).mono ?_; rintro e w' ⟨rfl, rfl⟩
  go_wp2
  go_ret
  exact ⟨rfl, rfl⟩
theorem take_short (h : Rr w b g 0 v xs) (n : Int) (hn : n > (xs.length : Int)) : Calls Try.prog 75 #[.pointer (some ⟨b, 0, none⟩), .int .i64 n] w fun e w' => e = .returned (.slice none 0 0) ∧ Rr w' b g 21 v xs ∧ Kp (iS b) w w' := by
  have C := reads_any h
  have F := fail_any h 21
  obtain ⟨c0, c1⟩ := cell2 h.blk
  obtain ⟨ad, cap, rfl⟩ := h.win.rd.slice
  go_enter Try.func75, Try.ntmps75
  go_wp2_with fail
  refine C.mono ?_; rintro e w' ⟨rfl, rfl⟩
  go_wp2_with fail
  refine F.mono ?_; rintro e w' ⟨rfl, hr, hk⟩
  go_wp2
  go_ret
  exact ⟨rfl, by simpa [failed] using hr, hk⟩

theorem win_take {off n cap : Nat} (hn : n ≤ xs.length) (hlc : xs.length ≤ cap) (hcb : cap ≤ 16777216) (hc : ∀ j u, (cs xs)[j]? = some u → w.cell? ((⟨g, off, none⟩ : Addr).add j) = some u) : Win w g (.slice (some ⟨g, off, none⟩) n cap) (xs.take n) := by
  have e : (xs.take n).length = n := by rw [List.length_take]; omega
  refine ⟨off, cap, by rw [e], by omega, hcb, fun j u hj => hc j u ?_⟩
  simp only [cs, List.getElem?_map, List.getElem?_take] at hj ⊢
  split at hj
  · exact hj
  · simp at hj
theorem addo (g off j : Nat) : (⟨g, off, none⟩ : Addr).add j = ⟨g, off + j, none⟩ := by
  unfold Addr.add
  split
  · subst_vars; rfl
  · rfl
theorem win_drop {off n cap : Nat} (hn : n ≤ xs.length) (hlc : xs.length ≤ cap) (hcb : cap ≤ 16777216) (hc : ∀ j u, (cs xs)[j]? = some u → w.cell? ((⟨g, off, none⟩ : Addr).add j) = some u) : Win w g (.slice (some ⟨g, off + n, none⟩) (xs.length - n) (cap - n)) (xs.drop n) := by
  have e : (xs.drop n).length = xs.length - n := by rw [List.length_drop]
  refine ⟨off + n, cap - n, by rw [e], by omega, by omega, fun j u hj => ?_⟩
  have := hc (n + j) u (by simpa [cs] using hj)
  rw [addo] at this ⊢
  rw [Nat.add_assoc]
  exact this
theorem win_end {off n cap : Nat} (hn : n = xs.length) : Win w g (.slice (some ⟨g, off, none⟩) (xs.length - n) 0) (xs.drop n) := by
  subst hn
  refine ⟨off, 0, by simp, by simp, by omega, fun j u hj => ?_⟩
  simp [cs] at hj
theorem take_fin {v' : Value} {ys : List Int} (h : Rr w b g err v xs) (hW : Win w g v' ys) : Rr (w.setCell ⟨b, 0, none⟩ v') b g err v' ys ∧ Kp (iS b) w (w.setCell ⟨b, 0, none⟩ v') := by
  refine ⟨⟨?_, hW.keeps (Kp.setCell _ _ _) h.ne, h.ne, by simpa [World.setCell] using h.glt⟩, Kp.setCell _ ⟨b, 0, none⟩ _⟩
  rw [set3 h.blk]
  rfl

set_option maxHeartbeats 400000 in
theorem take_ok (h : Rr w b g 0 v xs) (n : Nat) (hn : n ≤ xs.length) : Calls Try.prog 75 #[.pointer (some ⟨b, 0, none⟩), .int .i64 (n : Int)] w fun e w' => ∃ u, e = .returned u ∧ Win w' g u (xs.take n) ∧ (∃ v', Rr w' b g 0 v' (xs.drop n)) ∧ Kp (iS b) w w' := by
  have C := reads_any h
  obtain ⟨c0, c1⟩ := cell2 h.blk
  have cf := free3 h.blk 0
  obtain ⟨off, cap, rfl, hlc, hcb, hcell⟩ := h.win.is
  have hnI : ¬ (n : Int) > (xs.length : Int) := by omega
  have hnc : (n : Int) ≤ (cap : Int) := by omega
  have hlcI : (xs.length : Int) ≤ (cap : Int) := by omega
  have HB := hide hcb
  clear hcb
  go_enter Try.func75, Try.ntmps75
  go_wp2_with fail
  refine C.mono ?_; rintro e w' ⟨rfl, rfl⟩
  go_wp2
  · have hcb := HB.out
    have hh := ‹Rr w' b g 0 _ xs›
    have hcn : cap = n := ‹cap = n›
    go_ret
    have f := take_fin hh (win_end (g := g) (off := off) (cap := cap) (show n = xs.length by omega))
    refine ⟨_, rfl, ?_, ⟨_, f.1⟩, f.2⟩
    subst hcn
    exact (win_take hn hlc hcb hcell).keeps f.2 hh.ne
  · have hcb := HB.out
    have hh := ‹Rr w' b g 0 _ xs›
    go_ret
    have f := take_fin hh (win_drop hn hlc hcb hcell)
    exact ⟨_, rfl, (win_take hn hlc hcb hcell).keeps f.2 hh.ne, ⟨_, f.1⟩, f.2⟩
end
end Go.Proofs.Ytgaehpdlljlliaa.Cd
