import Derived.Test.YthajboipnjjgfaaPlB
import Derived.Test.YthajboipnjjgfaaOp
namespace Go.Proofs.Ythajboipnjjgfaa.Ly
open Go.ChangeShapes Go.WideShapes Go.ChangeAt Go.RowKit Go.Maps
open Go.Deep
set_option linter.unusedVariables false

theorem play_any {B b bm nb : Nat} {w : World} {room : Int} {D : DataW Unit} {v : Value} {c : Ct} {L : List Gm} (h : Nt B w b bm nb room D v c L) (hc : Fax c) (s : Sp) (hs : SpR w s) (hnb : (nb : Int) ≤ 4611686018427387000) :
    Calls Try.prog 30 #[.pointer (some ⟨b, 0, none⟩), s.agg] w fun e w' => e = .returned (.tuple #[]) ∧ Pld B w b bm nb room v s.kind c L w' := by
  obtain ⟨kd, A, E, N, kp, atv, xs, dv, ys⟩ := s
  obtain ⟨h1, h2, h3⟩ := hs
  simp only [Sp.agg] at *
  by_cases e1 : kd = 1
  · subst e1; exact play_1 h hc A E N kp atv dv xs ys h1 h2 h3 hnb
  by_cases e1 : kd = 2
  · subst e1; exact play_2 h hc A E N kp atv dv xs ys h1 h2 h3 hnb
  by_cases e1 : kd = 3
  · subst e1; exact play_3 h hc A E N kp atv dv xs ys h1 h2 h3 hnb
  by_cases e1 : kd = 4
  · subst e1; exact play_4 h hc A E N kp atv dv xs ys h1 h2 h3 hnb
  by_cases e1 : kd = 5
  · subst e1; exact play_5 h hc A E N kp atv dv xs ys h1 h2 h3 hnb
  by_cases e1 : kd = 6
  · subst e1; exact play_6 h hc A E N kp atv dv xs ys h1 h2 h3 hnb
  by_cases e1 : kd = 7
  · subst e1; exact play_7 h hc A E N kp atv dv xs ys h1 h2 h3 hnb
  by_cases e1 : kd = 8
  · subst e1; exact play_8 h hc A E N kp atv dv xs ys h1 h2 h3 hnb
  by_cases e1 : kd = 9
  · subst e1; exact play_9 h hc A E N kp atv dv xs ys h1 h2 h3 hnb
  exact play_0 h hc kd A E N (by omega) kp atv dv xs ys h1 h2 h3 hnb

/-- the step's seven cells -/
structure SpAt (W : World) (b o : Nat) (s : Sp) : Prop where
  c0 : W.cell? ⟨b, o, none⟩ = some (.int .i64 s.kind)
  c1 : W.cell? ⟨b, o + 1, none⟩ = some (.int .i64 s.a)
  c2 : W.cell? ⟨b, o + 2, none⟩ = some (.int .i64 s.b)
  c3 : W.cell? ⟨b, o + 3, none⟩ = some (.int .i64 s.n)
  c4 : W.cell? ⟨b, o + 4, none⟩ = some (.bool s.keep)
  c5 : W.cell? ⟨b, o + 5, none⟩ = some s.atv
  c6 : W.cell? ⟨b, o + 6, none⟩ = some s.dv
  fit : SpR W s
/-- a script that came in -/
def Scr (W : World) (v : Value) (S : List Sp) : Prop :=
  ((∃ ad cap, v = .slice ad 0 cap) ∧ S = []) ∨ ∃ b off cap, v = .slice (some ⟨b, off, none⟩) S.length cap ∧ ∀ i s, S[i]? = some s → SpAt W b (off + i * 7) s
theorem SpAt.nu {w w' : World} {s : Sp} {b o : Nat} (h : SpAt w b o s) (k : Kp Nu w w') : SpAt w' b o s :=
  have q := k.toBelow
  ⟨cell_below h.c0 (Nat.le_refl _) q, cell_below h.c1 (Nat.le_refl _) q, cell_below h.c2 (Nat.le_refl _) q, cell_below h.c3 (Nat.le_refl _) q, cell_below h.c4 (Nat.le_refl _) q, cell_below h.c5 (Nat.le_refl _) q, cell_below h.c6 (Nat.le_refl _) q, h.fit.nu k⟩
theorem Scr.slice {w : World} {v : Value} {S : List Sp} (h : Scr w v S) : ∃ ad cap, v = .slice ad S.length cap := by
  rcases h with ⟨⟨ad, cap, rfl⟩, rfl⟩ | ⟨b, off, cap, rfl, _⟩
  · exact ⟨ad, cap, rfl⟩
  · exact ⟨_, cap, rfl⟩

section
variable {H : Type} {enc : TypeId × Value → H} {W : World}

theorem get7 {α : Type} {l : List α} (h : l.length = 7) : ∃ a b c d e f g, l = [a, b, c, d, e, f, g] := by
  match l, h with
  | [a, b, c, d, e, f, g], _ => exact ⟨a, b, c, d, e, f, g, rfl⟩

/-- a step that came in -/
theorem open_step {fuel : Nat} {cs0 : List Value} {x : DataW H × List MemPlace} (h : DataW.trod enc Try.prog W 0 (fun _ => true) true fuel 55 cs0 = some x) :
    ∃ s : Sp, cs0 = [.int .i64 s.kind, .int .i64 s.a, .int .i64 s.b, .int .i64 s.n, .bool s.keep, s.atv, s.dv] ∧ SpR W s := by
  obtain ⟨xs, n, rfl, rfl, hl, hxl, hf⟩ := DataW.trod_struct Try.underlying55 h
  rw [cellsOf55] at hl
  obtain ⟨y0, y1, y2, y3, y4, y5, y6, rfl⟩ := get7 (show xs.length = 7 from hxl)
  obtain ⟨v0, v1, v2, v3, v4, v5, v6, rfl⟩ := get7 hl
  have f0 : DataW.trod enc Try.prog W 0 (fun _ => true) true n 3 [v0] = some y0 := by
    have g : DataW.trod enc Try.prog W 0 (fun _ => true) true n 3 (([v0, v1, v2, v3, v4, v5, v6].drop 0).take (Try.prog.cellsOf 3)) = [y0, y1, y2, y3, y4, y5, y6][0]? := hf 0 _ rfl
    rw [cellsOf3] at g; exact g
  have f1 : DataW.trod enc Try.prog W 0 (fun _ => true) true n 3 [v1] = some y1 := by
    have g : DataW.trod enc Try.prog W 0 (fun _ => true) true n 3 (([v0, v1, v2, v3, v4, v5, v6].drop 1).take (Try.prog.cellsOf 3)) = [y0, y1, y2, y3, y4, y5, y6][1]? := hf 1 _ rfl
    rw [cellsOf3] at g; exact g
  have f2 : DataW.trod enc Try.prog W 0 (fun _ => true) true n 3 [v2] = some y2 := by
    have g : DataW.trod enc Try.prog W 0 (fun _ => true) true n 3 (([v0, v1, v2, v3, v4, v5, v6].drop 2).take (Try.prog.cellsOf 3)) = [y0, y1, y2, y3, y4, y5, y6][2]? := hf 2 _ rfl
    rw [cellsOf3] at g; exact g
  have f3 : DataW.trod enc Try.prog W 0 (fun _ => true) true n 3 [v3] = some y3 := by
    have g : DataW.trod enc Try.prog W 0 (fun _ => true) true n 3 (([v0, v1, v2, v3, v4, v5, v6].drop 3).take (Try.prog.cellsOf 3)) = [y0, y1, y2, y3, y4, y5, y6][3]? := hf 3 _ rfl
    rw [cellsOf3] at g; exact g
  have f4 : DataW.trod enc Try.prog W 0 (fun _ => true) true n 4 [v4] = some y4 := by
    have g : DataW.trod enc Try.prog W 0 (fun _ => true) true n 4 (([v0, v1, v2, v3, v4, v5, v6].drop 4).take (Try.prog.cellsOf 4)) = [y0, y1, y2, y3, y4, y5, y6][4]? := hf 4 _ rfl
    rw [cellsOf4] at g; exact g
  have f5 : DataW.trod enc Try.prog W 0 (fun _ => true) true n 22 [v5] = some y5 := by
    have g : DataW.trod enc Try.prog W 0 (fun _ => true) true n 22 (([v0, v1, v2, v3, v4, v5, v6].drop 5).take (Try.prog.cellsOf 22)) = [y0, y1, y2, y3, y4, y5, y6][5]? := hf 5 _ rfl
    rw [cellsOf22] at g; exact g
  have f6 : DataW.trod enc Try.prog W 0 (fun _ => true) true n 25 [v6] = some y6 := by
    have g : DataW.trod enc Try.prog W 0 (fun _ => true) true n 25 (([v0, v1, v2, v3, v4, v5, v6].drop 6).take (Try.prog.cellsOf 25)) = [y0, y1, y2, y3, y4, y5, y6][6]? := hf 6 _ rfl
    rw [cellsOf25] at g; exact g
  obtain ⟨k0, e0, _, _⟩ := DataW.trod_int Try.underlying3 f0
  obtain ⟨k1, e1, _, _⟩ := DataW.trod_int Try.underlying3 f1
  obtain ⟨k2, e2, _, _⟩ := DataW.trod_int Try.underlying3 f2
  obtain ⟨k3, e3, _, _⟩ := DataW.trod_int Try.underlying3 f3
  obtain ⟨k4, e4, _⟩ := DataW.trod_bool Try.underlying4 f4
  obtain ⟨av, xs, e5, hr, hn⟩ := open_places f5
  obtain ⟨bv, bs, e6, hd, _, _⟩ := open_bytes f6
  obtain rfl : v0 = .int .i64 k0 := by simpa using e0
  obtain rfl : v1 = .int .i64 k1 := by simpa using e1
  obtain rfl : v2 = .int .i64 k2 := by simpa using e2
  obtain rfl : v3 = .int .i64 k3 := by simpa using e3
  obtain rfl : v4 = .bool k4 := by simpa using e4
  obtain rfl : v5 = av := by simpa using e5
  obtain rfl : v6 = bv := by simpa using e6
  exact ⟨⟨k0, k1, k2, k3, k4, v5, xs, v6, bs⟩, rfl, ⟨hr, hn, hd⟩⟩

/-- a script that came in -/
theorem open_script {v0 : Value} {d0 : DataW H} {p0 : List MemPlace} (h : DataW.Trod enc Try.prog W 0 (fun _ => true) true 52 v0 d0 p0) (hone : ∃ a len cap, v0 = .slice a len cap) (hw : ∀ n ∈ d0.weights Try.prog 52, n ≤ 140737488351232) : ∃ S, Scr W v0 S ∧ (S.length : Int) ≤ 1599289640354 := by
  obtain ⟨fuel, hf⟩ := h
  obtain ⟨a0, len0, cap0, rfl⟩ := hone
  have hf' : DataW.trod enc Try.prog W 0 (fun _ => true) true fuel 52 [.slice a0 len0 cap0] = some (d0, p0) := by simpa [Value.cells] using hf
  rcases open_slice Try.underlying52 hf' with ⟨hcs, hx⟩ | ⟨a, len, cap, m, n, D, Pl, hcs, _, hl, hm, hmm, hx, hel⟩
  · simp only [List.cons.injEq, and_true] at hcs
    rw [hcs]
    exact ⟨[], .inl ⟨⟨_, _, rfl⟩, rfl⟩, by simp⟩
  · simp only [List.cons.injEq, and_true] at hcs
    rw [hcs]
    simp only [Prod.mk.injEq] at hx
    have hml : m = cap := by rw [hmm]; simp
    have each : ∀ i, i < len → ∃ s : Sp, (∀ j, j < 7 → W.cell? (a.add (i * 7 + j)) = [Value.int .i64 s.kind, .int .i64 s.a, .int .i64 s.b, .int .i64 s.n, .bool s.keep, s.atv, s.dv][j]?) ∧ SpR W s := by
      intro i hi
      obtain ⟨cs', hc, ht⟩ := hel i (by omega)
      rw [cellsOf55] at hc
      obtain ⟨s, rfl, hfit⟩ := open_step ht
      refine ⟨s, fun j hj => ?_, hfit⟩
      obtain ⟨_, _, hcell⟩ := World.cells?_some hc
      have := hcell j hj
      rw [Deep.add_add] at this
      exact this
    haveI : Inhabited Sp := ⟨⟨0, 0, 0, 0, false, .slice none 0 0, [], .slice none 0 0, []⟩⟩
    obtain ⟨f, hf2⟩ := choose_lt (α := Sp) each
    by_cases h0 : len = 0
    · subst h0
      exact ⟨[], .inl ⟨⟨_, _, rfl⟩, rfl⟩, by simp⟩
    · have hsp : a.spot = none := by
        have h1 := (hf2 0 (by omega)).1 0 (by omega)
        have e : a.add (0 * 7 + 0) = a := by simp [Addr.add]
        rw [e] at h1
        simp only [List.getElem?_cons_zero] at h1
        exact spot_none h1
      obtain ⟨ab, ao, sp⟩ := a
      simp only at hsp
      subst hsp
      have hlb : (len : Int) ≤ 1599289640354 := by
        have := hw ((((List.range len).map D).length + ((List.range (m - len)).map fun j => D (len + j)).length) * Try.prog.bytesOf 55) (by rw [hx.1]; simp [DataW.weights, Try.underlying52])
        rw [bytesOf55] at this
        simp only [List.length_map, List.length_range] at this
        omega
      refine ⟨(List.range len).map f, .inr ⟨ab, ao, cap, by simp, fun i s hs => ?_⟩, by simpa using hlb⟩
      have hi : i < len := by
        have := (List.getElem?_eq_some_iff.1 hs).1
        simpa using this
      have hs' : f i = s := by simpa [hi] using hs
      subst hs'
      obtain ⟨hc, hfit⟩ := hf2 i hi
      have c := fun j hj => hc j hj
      simp only [Addr.add_lit] at c
      refine ⟨by simpa using c 0 (by omega), ?_, ?_, ?_, ?_, ?_, ?_, hfit⟩
      · have := c 1 (by omega); rw [← Nat.add_assoc] at this; simpa using this
      · have := c 2 (by omega); rw [← Nat.add_assoc] at this; simpa using this
      · have := c 3 (by omega); rw [← Nat.add_assoc] at this; simpa using this
      · have := c 4 (by omega); rw [← Nat.add_assoc] at this; simpa using this
      · have := c 5 (by omega); rw [← Nat.add_assoc] at this; simpa using this
      · have := c 6 (by omega); rw [← Nat.add_assoc] at this; simpa using this
end

/-- the books balance, and no count is greater than it may be behind k steps -/
structure Inv (c : Ct) (L : List Gm) (k : Int) : Prop where
  bal : c.s + c.i = (L.length : Int) + c.d - c.c + c.x
  cd : c.c ≤ c.d
  s0 : 0 ≤ c.s
  s1 : c.s ≤ k
  i0 : 0 ≤ c.i
  i1 : c.i ≤ k
  d0 : 0 ≤ c.d
  d1 : c.d ≤ k
  c0 : 0 ≤ c.c
  x0 : 0 ≤ c.x
  l0 : 0 ≤ c.l
  l1 : c.l ≤ k
  b0 : 0 ≤ c.b
  b1 : c.b ≤ k
theorem Inv.start : Inv Ct0 [] 0 := by constructor <;> simp [Ct0]
theorem Inv.step {c c' : Ct} {L L' : List Gm} {k kind : Int} (h : Inv c L k) (p : PlR kind c L c' L') : Inv c' L' (k + 1) := by
  obtain ⟨q1, q2, q3, q4, q5, q6, q7, q8, q9, q10, q11, q12, q13, q14⟩ := h
  cases p with
  | same => constructor <;> omega
  | lost => constructor <;> simp <;> omega
  | barred => constructor <;> simp <;> omega
  | sent g => constructor <;> simp <;> omega
  | inj g => constructor <;> simp <;> omega
  | kept => constructor <;> simp <;> omega
  | took p hp =>
    have := cut_length hp
    constructor <;> simp <;> omega
  | drop q =>
    have := sift_length_le q L 0
    constructor <;> simp <;> omega
theorem Inv.fax {c : Ct} {L : List Gm} {k : Int} (h : Inv c L k) (hk : k ≤ 1599289640400) : Fax c := by
  obtain ⟨q1, q2, q3, q4, q5, q6, q7, q8, q9, q10, q11, q12, q13, q14⟩ := h
  unfold Fax
  constructor <;> omega
end Go.Proofs.Ythajboipnjjgfaa.Ly
