import Derived.Test.YthajboipnjjgfaaLyS
import Derived.Test.YthajboipnjjgfaaLyR
namespace Go.Proofs.Ythajboipnjjgfaa.Ly
open Go.RowKit Go.Maps
set_option linter.unusedVariables false

/-- a step of a script -/
structure Sp where
  kind : Int
  a : Int
  b : Int
  n : Int
  keep : Bool
  atv : Value
  at' : List Int
  dv : Value
  ds : List Int
def Sp.agg (s : Sp) : Value := .agg #[.int .i64 s.kind, .int .i64 s.a, .int .i64 s.b, .int .i64 s.n, .bool s.keep, s.atv, s.dv]
/-- its lists can be read -/
structure SpR (w : World) (s : Sp) : Prop where
  at' : RdI w s.atv s.at'
  len : (s.at'.length : Int) ≤ 9223372036854775807
  ds : Rd w s.dv s.ds
theorem SpR.nu {w w' : World} {s : Sp} (h : SpR w s) (k : Kp Nu w w') : SpR w' s := ⟨h.at'.nu k, h.len, h.ds.nu k⟩

/-- the counts are far from their ends -/
def Fax (c : Ct) : Prop := Cok c 4611686018427386000
theorem Cok.mono {c : Ct} {M N : Int} (h : Cok c M) (hMN : M ≤ N) : Cok c N := by
  have := h.s1; have := h.i1; have := h.d1; have := h.c1; have := h.x1; have := h.l1; have := h.b1
  exact ⟨h.s0, by omega, h.i0, by omega, h.d0, by omega, h.c0, by omega, h.x0, by omega, h.l0, by omega, h.b0, by omega⟩
theorem Fax.far {c : Ct} (h : Fax c) : Far c := Cok.mono h (by omega)
theorem Fax.lt {c : Ct} (h : Fax c) : c.x < 4611686018427387000 := by have : c.x ≤ 4611686018427386000 := Cok.x1 h; omega

/-- what a step does to the counts and to the list -/
inductive PlR (kind : Int) (c : Ct) (L : List Gm) : Ct → List Gm → Prop
  | same : PlR kind c L c L
  | lost : PlR kind c L { c with l := c.l + 1 } L
  | barred : PlR kind c L { c with b := c.b + 1 } L
  | sent (g : Gm) (hk : kind = 1) (hf : g.f < 33) : PlR kind c L { c with s := c.s + 1 } (L ++ [g])
  | inj (g : Gm) (hk : kind = 2) (hf : 33 ≤ g.f) : PlR kind c L { c with i := c.i + 1 } (L ++ [g])
  | kept : PlR kind c L { c with d := c.d + 1, c := c.c + 1 } L
  | took (p : Nat) (hp : p < L.length) : PlR kind c L { c with d := c.d + 1 } (cut L p)
  | drop (q : Nat → Gm → Bool) : PlR kind c L { c with x := c.x + ((L.length : Int) - ((sift q 0 L).length : Int)) } (sift q 0 L)

/-- what a played step leaves -/
def Pld (B : Nat) (w : World) (b bm nb : Nat) (room : Int) (v : Value) (kind : Int) (c : Ct) (L : List Gm) (w' : World) : Prop :=
  ∃ nb' D' v' c' L', nb' ≤ nb + 1 ∧ PlR kind c L c' L' ∧ Nt B w' b bm nb' room D' v' c' L' ∧ Fr b bm v w w' v'

section
variable {B b bm nb : Nat} {w w' : World} {room : Int} {D : DataW Unit} {v : Value} {c : Ct} {L : List Gm}

theorem Pld.nu (h : Nt B w b bm nb room D v c L) {kind : Int} (k : Kp Nu w w') : Pld B w b bm nb room v kind c L w' := ⟨nb, D, v, c, L, by omega, .same, h.nu k, Fr.of_nu k⟩
theorem ent_pl {f t : Int} {ys : List Int} {code : Int} {kind : Int} {c' : Ct} {L' : List Gm} (h : Ent D room f t ys c { c with s := c.s + 1 } L code c' L') (hk : kind = 1) (hf : f < 33) : PlR kind c L c' L' := by
  rcases h with ⟨rfl, hy, rfl, rfl⟩ | ⟨y0, y1, ⟨rfl, hb, rfl, rfl⟩ | ⟨rfl, hb, hfl, rfl, rfl⟩ | ⟨rfl, hb, hfl, rfl, d', rfl⟩⟩
  · exact .same
  · exact .barred
  · exact .lost
  · exact .sent _ hk hf
theorem ent_pl2 {f t : Int} {ys : List Int} {code : Int} {kind : Int} {c' : Ct} {L' : List Gm} (h : Ent D room f t ys c { c with i := c.i + 1 } L code c' L') (hk : kind = 2) (hf : 33 ≤ f) : PlR kind c L c' L' := by
  rcases h with ⟨rfl, hy, rfl, rfl⟩ | ⟨y0, y1, ⟨rfl, hb, rfl, rfl⟩ | ⟨rfl, hb, hfl, rfl, rfl⟩ | ⟨rfl, hb, hfl, rfl, d', rfl⟩⟩
  · exact .same
  · exact .barred
  · exact .lost
  · exact .inj _ hk hf

/-- Send, whatever it answers -/
theorem send_pl (h : Nt B w b bm nb room D v c L) (hc : Fax c) (f t : Int) (f0 : 0 ≤ f) (f1 : f < 256) (t0 : 0 ≤ t) (t1 : t < 256) (d : Value) (ys : List Int) (hr : Rd w d ys) :
    Calls Try.prog 16 #[.pointer (some ⟨b, 0, none⟩), .int .u8 f, .int .u8 t, d] w fun e w' => ∃ code, e = .returned (.int .i64 code) ∧ Pld B w b bm nb room v 1 c L w' := by
  by_cases hf : 33 ≤ f
  · refine (send_out h f t hf d ys hr).mono ?_
    rintro e w2 ⟨rfl, rfl⟩
    exact ⟨_, rfl, Pld.nu h (Kp.refl _ _)⟩
  · refine (send_in h f t f0 (by omega) t0 t1 d ys hr hc.far).mono ?_
    rintro e w2 ⟨code, c', v', L', rfl, hE, hN, hF⟩
    exact ⟨_, rfl, nb, D, v', c', L', by omega, ent_pl hE rfl (by omega), hN, hF⟩
theorem inject_pl (h : Nt B w b bm nb room D v c L) (hc : Fax c) (f t : Int) (f0 : 0 ≤ f) (f1 : f < 256) (t0 : 0 ≤ t) (t1 : t < 256) (d : Value) (ys : List Int) (hr : Rd w d ys) :
    Calls Try.prog 34 #[.pointer (some ⟨b, 0, none⟩), .int .u8 f, .int .u8 t, d] w fun e w' => ∃ code, e = .returned (.int .i64 code) ∧ Pld B w b bm nb room v 2 c L w' := by
  by_cases hf : 33 ≤ f
  · refine (inject_out h f t hf f1 t0 t1 d ys hr hc.far).mono ?_
    rintro e w2 ⟨code, c', v', L', rfl, hE, hN, hF⟩
    exact ⟨_, rfl, nb, D, v', c', L', by omega, ent_pl2 hE rfl hf, hN, hF⟩
  · refine (inject_in h f t (by omega) d ys hr).mono ?_
    rintro e w2 ⟨rfl, rfl⟩
    exact ⟨_, rfl, Pld.nu h (Kp.refl _ _)⟩
theorem deliver_pl (h : Nt B w b bm nb room D v c L) (hc : Fax c) (p : Int) (keep : Bool) :
    Calls Try.prog 25 #[.pointer (some ⟨b, 0, none⟩), .int .i64 p, .bool keep] w fun e w' => ∃ f t ad n cap code, e = .returned (.tuple #[.agg #[.int .u8 f, .int .u8 t, .slice ad n cap], .int .i64 code]) ∧ Pld B w b bm nb room v 3 c L w' := by
  cases hin : inL p L.length
  · refine (deliver_bad h p keep hin).mono ?_
    rintro e w2 ⟨rfl, hk⟩
    exact ⟨_, _, _, _, _, _, rfl, Pld.nu h hk⟩
  · have hpp : 0 ≤ p ∧ p < (L.length : Int) := by simpa [inL] using hin
    obtain ⟨P, rfl⟩ : ∃ P : Nat, p = (P : Int) := ⟨p.toNat, by omega⟩
    have hP : P < L.length := by omega
    have hg := List.getElem?_eq_getElem hP
    cases hb : bar D L[P].f L[P].t
    · cases keep
      · refine (deliver_take h P hg hb hc.far).mono ?_
        rintro e w2 ⟨a, n, cap, rfl, hO, v', hN, hF⟩
        exact ⟨_, _, _, _, _, _, rfl, nb, D, v', _, _, by omega, .took P hP, hN, hF⟩
      · refine (deliver_keep h P hg hb hc.far).mono ?_
        rintro e w2 ⟨a, n, cap, rfl, hO, hN, hF⟩
        exact ⟨_, _, _, _, _, _, rfl, nb, D, v, _, _, by omega, .kept, hN, hF⟩
    · refine (deliver_bar h P keep hg hb).mono ?_
      rintro e w2 ⟨rfl, hk⟩
      exact ⟨_, _, _, _, _, _, rfl, Pld.nu h hk⟩
theorem look_pl (h : Nt B w b bm nb room D v c L) (p : Int) :
    Calls Try.prog 26 #[.pointer (some ⟨b, 0, none⟩), .int .i64 p] w fun e w' => ∃ f t ad n cap code, e = .returned (.tuple #[.agg #[.int .u8 f, .int .u8 t, .slice ad n cap], .int .i64 code]) ∧ Pld B w b bm nb room v 4 c L w' := by
  cases hin : inL p L.length
  · refine (look_bad h p hin).mono ?_
    rintro e w2 ⟨rfl, hk⟩
    exact ⟨_, _, _, _, _, _, rfl, Pld.nu h hk⟩
  · have hpp : 0 ≤ p ∧ p < (L.length : Int) := by simpa [inL] using hin
    obtain ⟨P, rfl⟩ : ∃ P : Nat, p = (P : Int) := ⟨p.toNat, by omega⟩
    have hP : P < L.length := by omega
    refine (look_ok h P (List.getElem?_eq_getElem hP)).mono ?_
    rintro e w2 ⟨a, n, cap, rfl, hO, hk⟩
    exact ⟨_, _, _, _, _, _, rfl, Pld.nu h hk⟩
theorem drop_pl (h : Nt B w b bm nb room D v c L) (hc : Fax c) (u : Value) (xs : List Int) (hr : RdI w u xs) (hn : (xs.length : Int) ≤ 9223372036854775807) :
    Calls Try.prog 19 #[.pointer (some ⟨b, 0, none⟩), u] w fun e w' => ∃ q er, e = .returned (.tuple #[.int .i64 q, .int .i64 er]) ∧ Pld B w b bm nb room v 5 c L w' := by
  refine (drop_any h u xs hr hn (Cok.x0 hc) hc.lt).mono ?_
  intro e w2 hP
  unfold DrP at hP
  cases hin : inAll xs L.length
  · rw [hin] at hP
    obtain ⟨rfl, hk⟩ := hP
    exact ⟨_, _, rfl, Pld.nu h hk⟩
  · rw [hin] at hP
    obtain ⟨rfl, v', hN, hF⟩ := hP
    exact ⟨_, _, rfl, nb, D, v', _, _, by omega, .drop _, hN, hF⟩
theorem sweep_pl (h : Nt B w b bm nb room D v c L) (hc : Fax c) (n m : Int) :
    Calls Try.prog 51 #[.pointer (some ⟨b, 0, none⟩), .int .i64 n, .int .i64 m] w fun e w' => ∃ q, e = .returned (.int .i64 q) ∧ Pld B w b bm nb room v 6 c L w' := by
  refine (sweep_any h n m (Cok.x0 hc) hc.lt).mono ?_
  rintro e w2 ⟨rfl, v', hN, hF⟩
  exact ⟨_, rfl, nb, D, v', _, _, by omega, .drop _, hN, hF⟩
theorem empty_pl (h : Nt B w b bm nb room D v c L) (hc : Fax c) :
    Calls Try.prog 32 #[.pointer (some ⟨b, 0, none⟩)] w fun e w' => ∃ q, e = .returned (.int .i64 q) ∧ Pld B w b bm nb room v 7 c L w' := by
  refine (empty_any h (Cok.x0 hc) hc.lt).mono ?_
  rintro e w2 ⟨rfl, v', hN, hF⟩
  have e0 : ∀ (L : List Gm) k, sift (fun _ _ => true) k L = [] := fun L => by
    induction L with
    | nil => intro k; rfl
    | cons g r ih => intro k; simp [sift, ih]
  have := PlR.drop (kind := 7) (c := c) (L := L) (fun _ _ => true)
  rw [e0] at this
  simp only [List.length_nil, Int.natCast_zero, Int.sub_zero] at this
  exact ⟨_, rfl, nb, D, v', _, _, by omega, this, hN, hF⟩
theorem block_pl (h : Nt B w b bm nb room D v c L) (f t : Int) (f0 : 0 ≤ f) (f1 : f < 256) (t0 : 0 ≤ t) (t1 : t < 256) (hn : nb < maxLen) :
    Calls Try.prog 35 #[.pointer (some ⟨b, 0, none⟩), .int .u8 f, .int .u8 t] w fun e w' => e = .returned (.int .i64 0) ∧ Pld B w b bm nb room v 8 c L w' := by
  refine (block_any h f t f0 f1 t0 t1 hn).mono ?_
  rintro e w2 ⟨rfl, hN, hF⟩
  exact ⟨rfl, nb + 1, _, v, c, L, by omega, .same, hN, hF⟩
theorem heal_pl (h : Nt B w b bm nb room D v c L) (n m : Int) (hnb : (nb : Int) ≤ 4611686018427387000) :
    Calls Try.prog 33 #[.pointer (some ⟨b, 0, none⟩), .int .i64 n, .int .i64 m] w fun e w' => ∃ q, e = .returned (.int .i64 q) ∧ Pld B w b bm nb room v 9 c L w' := by
  by_cases hnm : n = -1 ∧ m = -1
  · obtain ⟨rfl, rfl⟩ := hnm
    refine (heal_all h).mono ?_
    rintro e w2 ⟨rfl, hN, hF⟩
    exact ⟨_, rfl, 0, _, v, c, L, by omega, .same, hN, hF⟩
  · refine (heal_some h n m hnm hnb).mono ?_
    rintro e w2 ⟨D', rfl, _, hN, hF⟩
    exact ⟨_, rfl, nb, D', v, c, L, by omega, .same, hN, hF⟩
end
end Go.Proofs.Ythajboipnjjgfaa.Ly
