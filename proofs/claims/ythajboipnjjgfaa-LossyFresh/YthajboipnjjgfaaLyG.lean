import Derived.Test.YthajboipnjjgfaaLyF
namespace Go.Proofs.Ythajboipnjjgfaa.Ly
open Go.RowKit Go.Maps
set_option linter.unusedVariables false

/-- what comes of a datagram that is handed in -/
def Ent (D : DataW Unit) (room f t : Int) (ys : List Int) (c cok : Ct) (L : List Gm) (code : Int) (c' : Ct) (L' : List Gm) : Prop :=
  (code = 51 ∧ (ys.length = 0 ∨ 1024 < ys.length) ∧ c' = c ∧ L' = L) ∨
  (0 < ys.length ∧ ys.length ≤ 1024 ∧
    ((code = 53 ∧ bar D f t = true ∧ c' = { c with b := c.b + 1 } ∧ L' = L) ∨
     (code = 52 ∧ bar D f t = false ∧ room ≤ (L.length : Int) ∧ c' = { c with l := c.l + 1 } ∧ L' = L) ∨
     (code = 0 ∧ bar D f t = false ∧ (L.length : Int) < room ∧ c' = cok ∧ ∃ d', L' = L ++ [⟨f, t, d', ys⟩])))

/-- what has turned from w to w', where the list's slice went from v to v' -/
structure Fr (b bm : Nat) (v : Value) (w w' : World) (v' : Value) : Prop where
  kp : Kp (fp b bm v) w w'
  lie : v'.ownBlock = v.ownBlock ∨ ∃ g, w.heap.size ≤ g ∧ v'.ownBlock = some g
theorem Fr.refl (b bm : Nat) (v : Value) (w : World) : Fr b bm v w w v := ⟨Kp.refl _ _, .inl rfl⟩
theorem Fr.of_nu {b bm : Nat} {v : Value} {w w' : World} (k : Kp Nu w w') : Fr b bm v w w' v := ⟨k.mono (fun _ _ h => h.elim), .inl rfl⟩
theorem Fr.of_kp {b bm : Nat} {v : Value} {w w' : World} (k : Kp (fp b bm v) w w') : Fr b bm v w w' v := ⟨k, .inl rfl⟩
theorem Fr.trans {b bm : Nat} {v v' v'' : Value} {w w' w'' : World} (h : Fr b bm v w w' v') (k : Fr b bm v' w' w'' v'') : Fr b bm v w w'' v'' := by
  refine ⟨h.kp.trans k.kp ?_, ?_⟩
  · rintro i hi (e | e | e)
    · exact .inl e
    · exact .inr (.inl e)
    · rcases h.lie with hl | ⟨g, hg, hl⟩
      · exact .inr (.inr (e.trans hl))
      · rw [hl] at e; cases e; omega
  · rcases k.lie with kl | ⟨g, hg, kl⟩
    · rcases h.lie with hl | ⟨g, hg, hl⟩
      · exact .inl (kl.trans hl)
      · exact .inr ⟨g, hg, kl.trans hl⟩
    · exact .inr ⟨g, Nat.le_trans h.kp.size hg, kl⟩
theorem Fr.set {b bm : Nat} {v v' : Value} {w w' : World} (h : Fr b bm v w w' v') (o : Nat) (u : Value) : Fr b bm v w (w'.setCell ⟨b, o, none⟩ u) v' :=
  h.trans (Fr.of_kp (fp_set (Kp.refl _ _) o u))
theorem Fr.drew {b bm : Nat} {v v' : Value} {w w' : World} (h : Fr b bm v w w' v') : Fr b bm v w w'.drew v' := ⟨h.kp.drew, h.lie⟩

section
variable {B b bm nb : Nat} {w w' : World} {room : Int} {D : DataW Unit} {v : Value} {c : Ct} {L : List Gm}

theorem takeIn_any (h : Nt B w b bm nb room D v c L) (f t : Int) (f0 : 0 ≤ f) (f1 : f < 256) (t0 : 0 ≤ t) (t1 : t < 256) (d : Value) (ys : List Int) (hr : Rd w d ys) (hb0 : 0 ≤ c.b) (hb1 : c.b < 4611686018427387904) (hl0 : 0 ≤ c.l) (hl1 : c.l < 4611686018427387904) :
    Calls Try.prog 42 #[.pointer (some ⟨b, 0, none⟩), .agg #[.int .u8 f, .int .u8 t, d]] w fun e w' => ∃ code c' v' L', e = .returned (.int .i64 code) ∧ Ent D room f t ys c c L code c' L' ∧ Nt B w' b bm nb room D v' c' L' ∧ Fr b bm v w w' v' := by
  by_cases hy : ys.length = 0 ∨ 1024 < ys.length
  · refine (takeIn_long h f t d ys hr hy).mono ?_
    rintro e w' ⟨rfl, k⟩
    exact ⟨51, c, v, L, rfl, .inl ⟨rfl, hy, rfl, rfl⟩, h.nu k, Fr.of_nu k⟩
  · have y0 : 0 < ys.length := by omega
    have y1 : ys.length ≤ 1024 := by omega
    cases hbar : bar D f t
    · by_cases hfull : room ≤ (L.length : Int)
      · refine (takeIn_full h f t f0 f1 t0 t1 d ys hr y0 y1 hbar hfull hl0 hl1).mono ?_
        rintro e w' ⟨rfl, hn, k⟩
        exact ⟨52, _, v, L, rfl, .inr ⟨y0, y1, .inr (.inl ⟨rfl, hbar, hfull, rfl, rfl⟩)⟩, hn, Fr.of_kp k⟩
      · refine (takeIn_ok h f t f0 f1 t0 t1 d ys hr y0 y1 hbar (by omega)).mono ?_
        rintro e w' ⟨rfl, v', d', hn, k, hl⟩
        exact ⟨0, _, v', _, rfl, .inr ⟨y0, y1, .inr (.inr ⟨rfl, hbar, by omega, rfl, d', rfl⟩)⟩, hn, ⟨k, hl⟩⟩
    · refine (takeIn_bar h f t f0 f1 t0 t1 d ys hr y0 y1 hbar hb0 hb1).mono ?_
      rintro e w' ⟨rfl, hn, k⟩
      exact ⟨53, _, v, L, rfl, .inr ⟨y0, y1, .inl ⟨rfl, hbar, rfl, rfl⟩⟩, hn, Fr.of_kp k⟩

/-- the counts are far from their ends -/
def Far (c : Ct) : Prop := Cok c 4611686018427387000

theorem send_out (h : Nt B w b bm nb room D v c L) (f t : Int) (hf : 33 ≤ f) (d : Value) (ys : List Int) (hr : Rd w d ys) :
    Calls Try.prog 16 #[.pointer (some ⟨b, 0, none⟩), .int .u8 f, .int .u8 t, d] w fun e w' => e = .returned (.int .i64 55) ∧ w' = w := by
  obtain ⟨ad, cap, hd⟩ := hr.slice
  have MA := made_any h
  have OU := outside_any f w
  rw [show decide (33 ≤ f) = true from decide_eq_true hf] at OU
  subst hd
  go_enter Try.func16, Try.ntmps16
  go_wp2_with fail
  refine MA.mono ?_; rintro e w' ⟨rfl, rfl⟩
  go_wp2_with fail
  refine OU.mono ?_; rintro e w' ⟨rfl, rfl⟩
  go_wp2
  go_ret
  exact ⟨rfl, rfl⟩

set_option maxHeartbeats 400000 in
theorem send_in (h : Nt B w b bm nb room D v c L) (f t : Int) (f0 : 0 ≤ f) (hf : f < 33) (t0 : 0 ≤ t) (t1 : t < 256) (d : Value) (ys : List Int) (hr : Rd w d ys) (hc : Far c) :
    Calls Try.prog 16 #[.pointer (some ⟨b, 0, none⟩), .int .u8 f, .int .u8 t, d] w fun e w' => ∃ code c' v' L', e = .returned (.int .i64 code) ∧ Ent D room f t ys c { c with s := c.s + 1 } L code c' L' ∧ Nt B w' b bm nb room D v' c' L' ∧ Fr b bm v w w' v' := by
  obtain ⟨ad, cap, hd⟩ := hr.slice
  have MA := made_any h
  have OU := outside_any f w
  rw [show decide (33 ≤ f) = false from decide_eq_false (by omega)] at OU
  have TI := fun W (k : Kp Nu w W) => takeIn_any (h.nu k) f t f0 (by omega) t0 t1 d ys (hr.nu k) hc.b0 (by have := hc.b1; omega) hc.l0 (by have := hc.l1; omega)
  have KA := Kp.refl Nu w
  have hs0 := hc.s0
  have hs1 : c.s ≤ 4611686018427387000 := hc.s1
  subst hd
  go_enter Try.func16, Try.ntmps16
  go_wp2_with fail
  refine MA.mono ?_; rintro e w' ⟨rfl, rfl⟩
  go_wp2_with fail
  refine OU.mono ?_; rintro e w' ⟨rfl, rfl⟩
  go_wp2_with fail
  refine (TI _ KA).mono ?_; rintro e w2 ⟨code, c', v', L', rfl, hE, hN, hF⟩
  have hF2 := (Fr.of_nu KA (b := b) (bm := bm) (v := v)).trans hF
  clear TI MA OU hF
  rcases hE with ⟨rfl, hy, rfl, rfl⟩ | ⟨y0, y1, ⟨rfl, hbar, rfl, rfl⟩ | ⟨rfl, hbar, hfl, rfl, rfl⟩ | ⟨rfl, hbar, hfl, rfl, d', rfl⟩⟩
  · go_wp2
    go_ret
    exact ⟨51, _, _, _, rfl, .inl ⟨rfl, hy, rfl, rfl⟩, hN, hF2⟩
  · go_wp2
    go_ret
    exact ⟨53, _, _, _, rfl, .inr ⟨y0, y1, .inl ⟨rfl, hbar, rfl, rfl⟩⟩, hN, hF2⟩
  · go_wp2
    go_ret
    exact ⟨52, _, _, _, rfl, .inr ⟨y0, y1, .inr (.inl ⟨rfl, hbar, hfl, rfl, rfl⟩)⟩, hN, hF2⟩
  · have c3 := hN.c3
    have f3 := free3 hN.blk 3
    go_wp2
    go_ret
    exact ⟨0, _, _, _, rfl, .inr ⟨y0, y1, .inr (.inr ⟨rfl, hbar, hfl, rfl, d', rfl⟩)⟩, hN.set 3 _ rfl, hF2.set _ _⟩

theorem inject_in (h : Nt B w b bm nb room D v c L) (f t : Int) (hf : f < 33) (d : Value) (ys : List Int) (hr : Rd w d ys) :
    Calls Try.prog 34 #[.pointer (some ⟨b, 0, none⟩), .int .u8 f, .int .u8 t, d] w fun e w' => e = .returned (.int .i64 55) ∧ w' = w := by
  obtain ⟨ad, cap, hd⟩ := hr.slice
  have MA := made_any h
  have OU := outside_any f w
  rw [show decide (33 ≤ f) = false from decide_eq_false (by omega)] at OU
  subst hd
  go_enter Try.func34, Try.ntmps34
  go_wp2_with fail
  refine MA.mono ?_; rintro e w' ⟨rfl, rfl⟩
  go_wp2_with fail
  refine OU.mono ?_; rintro e w' ⟨rfl, rfl⟩
  go_wp2
  go_ret
  exact ⟨rfl, rfl⟩

set_option maxHeartbeats 400000 in
theorem inject_out (h : Nt B w b bm nb room D v c L) (f t : Int) (hf : 33 ≤ f) (f1 : f < 256) (t0 : 0 ≤ t) (t1 : t < 256) (d : Value) (ys : List Int) (hr : Rd w d ys) (hc : Far c) :
    Calls Try.prog 34 #[.pointer (some ⟨b, 0, none⟩), .int .u8 f, .int .u8 t, d] w fun e w' => ∃ code c' v' L', e = .returned (.int .i64 code) ∧ Ent D room f t ys c { c with i := c.i + 1 } L code c' L' ∧ Nt B w' b bm nb room D v' c' L' ∧ Fr b bm v w w' v' := by
  obtain ⟨ad, cap, hd⟩ := hr.slice
  have MA := made_any h
  have OU := outside_any f w
  rw [show decide (33 ≤ f) = true from decide_eq_true hf] at OU
  have TI := fun W (k : Kp Nu w W) => takeIn_any (h.nu k) f t (by omega) f1 t0 t1 d ys (hr.nu k) hc.b0 (by have := hc.b1; omega) hc.l0 (by have := hc.l1; omega)
  have KA := Kp.refl Nu w
  have hs0 := hc.i0
  have hs1 : c.i ≤ 4611686018427387000 := hc.i1
  subst hd
  go_enter Try.func34, Try.ntmps34
  go_wp2_with fail
  refine MA.mono ?_; rintro e w' ⟨rfl, rfl⟩
  go_wp2_with fail
  refine OU.mono ?_; rintro e w' ⟨rfl, rfl⟩
  go_wp2_with fail
  refine (TI _ KA).mono ?_; rintro e w2 ⟨code, c', v', L', rfl, hE, hN, hF⟩
  have hF2 := (Fr.of_nu KA (b := b) (bm := bm) (v := v)).trans hF
  clear TI MA OU hF
  rcases hE with ⟨rfl, hy, rfl, rfl⟩ | ⟨y0, y1, ⟨rfl, hbar, rfl, rfl⟩ | ⟨rfl, hbar, hfl, rfl, rfl⟩ | ⟨rfl, hbar, hfl, rfl, d', rfl⟩⟩
  · go_wp2
    go_ret
    exact ⟨51, _, _, _, rfl, .inl ⟨rfl, hy, rfl, rfl⟩, hN, hF2⟩
  · go_wp2
    go_ret
    exact ⟨53, _, _, _, rfl, .inr ⟨y0, y1, .inl ⟨rfl, hbar, rfl, rfl⟩⟩, hN, hF2⟩
  · go_wp2
    go_ret
    exact ⟨52, _, _, _, rfl, .inr ⟨y0, y1, .inr (.inl ⟨rfl, hbar, hfl, rfl, rfl⟩)⟩, hN, hF2⟩
  · have c4 := hN.c4
    have f4 := free3 hN.blk 4
    go_wp2
    go_ret
    exact ⟨0, _, _, _, rfl, .inr ⟨y0, y1, .inr (.inr ⟨rfl, hbar, hfl, rfl, d', rfl⟩)⟩, hN.set 4 _ rfl, hF2.set _ _⟩

theorem len_any (h : Nt B w b bm nb room D v c L) : Calls Try.prog 18 #[.pointer (some ⟨b, 0, none⟩)] w fun e w' => e = .returned (.int .i64 (L.length : Int)) ∧ w' = w := by
  have MA := made_any h
  obtain ⟨ad, cap, hvl⟩ := own_slice h.own
  subst hvl
  have c1 := h.c1
  go_enter Try.func18, Try.ntmps18
  go_wp2_with fail
  refine MA.mono ?_; rintro e w' ⟨rfl, rfl⟩
  go_wp2
  go_ret
  exact ⟨rfl, rfl⟩

theorem count_any (h : Nt B w b bm nb room D v c L) : Calls Try.prog 31 #[.pointer (some ⟨b, 0, none⟩)] w fun e w' => e = .returned (.agg #[.int .i64 c.s, .int .i64 c.i, .int .i64 c.d, .int .i64 c.c, .int .i64 c.x, .int .i64 c.l, .int .i64 c.b]) ∧ Kp Nu w w' := by
  have MA := fun o => made_any (h.nu (Kp.alloc w o Nu))
  have K1 := fun o => h.nu (Kp.alloc w o Nu)
  go_enter Try.func31, Try.ntmps31
  go_wp2_with fail
  refine (MA _).mono ?_; rintro e w' ⟨rfl, rfl⟩
  have h2 := K1 (.cells #[.int .i64 0, .int .i64 0, .int .i64 0, .int .i64 0, .int .i64 0, .int .i64 0, .int .i64 0] 57)
  have c3 := h2.c3
  have c4 := h2.c4
  have c5 := h2.c5
  have c6 := h2.c6
  have c7 := h2.c7
  have c8 := h2.c8
  have c9 := h2.c9
  clear MA K1
  go_wp2
  refine bodyPost_ret (v := .agg #[.int .i64 c.s, .int .i64 c.i, .int .i64 c.d, .int .i64 c.c, .int .i64 c.x, .int .i64 c.l, .int .i64 c.b]) (by simp [results, Try.results31, go_sem]) rfl ⟨rfl, ?_⟩
  exact (Kp.refl Nu w).andAlloc _
end
end Go.Proofs.Ythajboipnjjgfaa.Ly
