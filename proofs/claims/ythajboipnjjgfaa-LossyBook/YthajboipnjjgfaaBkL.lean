import Derived.Test.YthajboipnjjgfaaBkK
namespace Go.Proofs.Ythajboipnjjgfaa.Ly
open Go.RowKit Go.Maps
set_option linter.unusedVariables false

/-- what a call that takes a datagram in leaves, as the book sees it -/
def SeR (B : Nat) (w : World) (b bm nb : Nat) (room : Int) (D : DataW Unit) (v : Value) (c : Ct) (L : List Gm) (kd f t : Int) (ys : List Int) (code : Int) (w' : World) : Prop :=
  (code = 0 ∧ ys.length ≤ 1024 ∧ ∃ c' v' d', PlR kd c L c' (L ++ [⟨f, t, d', ys⟩]) ∧ Nt B w' b bm nb room D v' c' (L ++ [⟨f, t, d', ys⟩]) ∧ Fr b bm v w w' v' ∧ (L.length : Int) < room) ∨
  (code ≠ 0 ∧ ∃ c' v', PlR kd c L c' L ∧ Nt B w' b bm nb room D v' c' L ∧ Fr b bm v w w' v' ∧ ((L.length : Int) < room → ys.length = 1 → (f < 33 ↔ kd = 1) → bar D f t = true))
section
variable {B b bm nb : Nat} {w : World} {room : Int} {D : DataW Unit} {v : Value} {c : Ct} {L : List Gm}
theorem ser_of_ent {w' : World} {f t code : Int} {ys : List Int} {cok c' : Ct} {v' : Value} {L' : List Gm} {kd : Int} (hE : Ent D room f t ys c cok L code c' L') (hN : Nt B w' b bm nb room D v' c' L') (hF : Fr b bm v w w' v') (hok : ∀ d', PlR kd c L cok (L ++ [⟨f, t, d', ys⟩])) : SeR B w b bm nb room D v c L kd f t ys code w' := by
  rcases hE with ⟨rfl, hy, rfl, rfl⟩ | ⟨y0, y1, ⟨rfl, hb, rfl, rfl⟩ | ⟨rfl, hb, hfl, rfl, rfl⟩ | ⟨rfl, hb, hfl, rfl, d', rfl⟩⟩
  · exact .inr ⟨by decide, c', v', .same, hN, hF, fun _ h1 _ => by omega⟩
  · exact .inr ⟨by decide, _, v', .barred, hN, hF, fun _ _ _ => hb⟩
  · exact .inr ⟨by decide, _, v', .lost, hN, hF, fun h1 _ _ => by omega⟩
  · exact .inl ⟨rfl, y1, c', v', d', hok d', hN, hF, hfl⟩
theorem send_r (h : Nt B w b bm nb room D v c L) (f t : Int) (f0 : 0 ≤ f) (f1 : f < 256) (t0 : 0 ≤ t) (t1 : t < 256) (d : Value) (ys : List Int) (hr : Rd w d ys) (hc : Far c) :
    Calls Try.prog 16 #[.pointer (some ⟨b, 0, none⟩), .int .u8 f, .int .u8 t, d] w fun e w' => ∃ code, e = .returned (.int .i64 code) ∧ SeR B w b bm nb room D v c L 1 f t ys code w' := by
  by_cases hf : f < 33
  · refine (send_in h f t f0 hf t0 t1 d ys hr hc).mono ?_
    rintro e w' ⟨code, c', v', L', rfl, hE, hN, hF⟩
    exact ⟨code, rfl, ser_of_ent hE hN hF (fun d' => .sent _ rfl hf)⟩
  · refine (send_out h f t (by omega) d ys hr).mono ?_
    rintro e w' ⟨rfl, rfl⟩
    exact ⟨55, rfl, .inr ⟨by decide, c, v, .same, h, Fr.of_nu (Kp.refl _ _), fun _ _ h3 => absurd (h3.2 rfl) hf⟩⟩
theorem inject_r (h : Nt B w b bm nb room D v c L) (f t : Int) (f0 : 0 ≤ f) (f1 : f < 256) (t0 : 0 ≤ t) (t1 : t < 256) (d : Value) (ys : List Int) (hr : Rd w d ys) (hc : Far c) :
    Calls Try.prog 34 #[.pointer (some ⟨b, 0, none⟩), .int .u8 f, .int .u8 t, d] w fun e w' => ∃ code, e = .returned (.int .i64 code) ∧ SeR B w b bm nb room D v c L 2 f t ys code w' := by
  by_cases hf : f < 33
  · refine (inject_in h f t hf d ys hr).mono ?_
    rintro e w' ⟨rfl, rfl⟩
    exact ⟨55, rfl, .inr ⟨by decide, c, v, .same, h, Fr.of_nu (Kp.refl _ _), fun _ _ h3 => absurd (h3.1 hf) (by decide)⟩⟩
  · refine (inject_out h f t (by omega) f1 t0 t1 d ys hr hc).mono ?_
    rintro e w' ⟨code, c', v', L', rfl, hE, hN, hF⟩
    exact ⟨code, rfl, ser_of_ent hE hN hF (fun d' => .inj _ rfl (by show 33 ≤ f; omega))⟩
theorem ks_ne {ss : List (Int × Int)} (h : Ks D ss) {f t : Int} (f0 : 0 ≤ f) (f1 : f < 256) (t0 : 0 ≤ t) (t1 : t < 256) (hb : bar D f t = true) : 0 < ss.length := by
  have hm := (h.2.1 (f, t)).2 ⟨⟨f0, f1, t0, t1⟩, hb⟩
  exact List.length_pos_of_mem hm
end
end Go.Proofs.Ythajboipnjjgfaa.Ly
