import Derived.Test.YthajboipnjjgfaaBkF
namespace Go.Proofs.Ythajboipnjjgfaa.Ly
open Go.RowKit Go.Maps
set_option linter.unusedVariables false

set_option maxRecDepth 100000 in
set_option maxHeartbeats 1000000 in
theorem booked_7 {w0 w : World} {b bm nb : Nat} {room : Int} {D : DataW Unit} {v : Value} {c : Ct} {L : List Gm} {u : Value} {M : List Gm} (h : Bs w0 w b bm nb room D v c L u M) (hc : Fax c) (A E N : Int) (kp : Bool) (atv dv : Value) (xs ys : List Int) (hr : RdI w0 atv xs) (hd : Rd w0 dv ys) :
    Calls Try.prog 36 #[.pointer (some ⟨b, 0, none⟩), u, .agg #[.int .i64 7, .int .i64 A, .int .i64 E, .int .i64 N, .bool kp, atv, dv], .int .i64 room] w fun e w' => ∃ u', e = .returned (.tuple #[u', .bool true]) ∧ ∃ v' c', PlR 7 c L c' [] ∧ Bs w0 w' b bm nb room D v' c' [] u' [] := by
  have mixed : Try.prog.follows .mixedOrders = true := by kernel_rfl
  have K1 := (Kp.alloc w (.cells #[.int .i64 7, .int .i64 A, .int .i64 E, .int .i64 N, .bool kp, atv, dv] 55) Nu).drew
  have EM := empty_any (h.nu K1).nt (Cok.x0 hc) hc.lt
  have HH := hide (h.nu K1)
  obtain ⟨ad, cap, hu⟩ := own_slice h.own
  obtain ⟨ad1, c1, e1⟩ := hr.slice
  obtain ⟨ad2, c2, e2⟩ := hd.slice
  subst hu e1 e2
  generalize xs.length = Nx at *
  generalize ys.length = Ny at *
  generalize M.length = NM at *
  clear hr hd h K1
  go_enter Try.func36, Try.ntmps36
  go_wp2_with fail
  go_region
  go_wp2_with fail
  refine EM.mono ?_
  rintro e w2 ⟨rfl, v', hN, hF⟩
  have HF : Hid (Bs w0 w2 b bm nb room D v' { c with x := c.x + (L.length : Int) } [] (.slice none 0 0) []) :=
    ⟨hN, (HH.out.fr hN hF).2, ⟨rfl, .inl ⟨rfl, rfl⟩⟩, by simp, rfl⟩
  have HP : Hid (PlR 7 c L { c with x := c.x + (L.length : Int) } []) := by
    have e0 : ∀ (L : List Gm) k, sift (fun _ _ => true) k L = [] := fun L => by
      induction L with
      | nil => intro k; rfl
      | cons g r ih => intro k; simp [sift, ih]
    have h1 := PlR.drop (kind := 7) (c := c) (L := L) (fun _ _ => true)
    rw [e0] at h1
    refine hide ?_
    simpa using h1
  clear EM hN hF
  go_wp2
  go_ret2
  exact ⟨_, rfl, v', _, HP.out, HF.out⟩

set_option maxRecDepth 100000 in
set_option maxHeartbeats 1000000 in
theorem booked_5 {w0 w : World} {b bm nb : Nat} {room : Int} {D : DataW Unit} {v : Value} {c : Ct} {L : List Gm} {u : Value} {M : List Gm} (h : Bs w0 w b bm nb room D v c L u M) (hc : Fax c) (A E N : Int) (kp : Bool) (atv dv : Value) (xs ys : List Int) (hr : RdI w0 atv xs) (hn : (xs.length : Int) ≤ 9223372036854775807) (hd : Rd w0 dv ys) :
    Calls Try.prog 36 #[.pointer (some ⟨b, 0, none⟩), u, .agg #[.int .i64 5, .int .i64 A, .int .i64 E, .int .i64 N, .bool kp, atv, dv], .int .i64 room] w fun e w' => ∃ u', e = .returned (.tuple #[u', .bool true]) ∧ ∃ M' v' c' L', PlR 5 c L c' L' ∧ Bs w0 w' b bm nb room D v' c' L' u' M' := by
  have mixed : Try.prog.follows .mixedOrders = true := by kernel_rfl
  have K1 := (Kp.alloc w (.cells #[.int .i64 5, .int .i64 A, .int .i64 E, .int .i64 N, .bool kp, atv, dv] 55) Nu).drew
  have DR := dropped_any (h.nu K1) atv xs hr hn (Cok.x0 hc) hc.lt
  obtain ⟨ad, cap, hu⟩ := own_slice h.own
  obtain ⟨ad1, c1, e1⟩ := hr.slice
  obtain ⟨ad2, c2, e2⟩ := hd.slice
  subst hu e1 e2
  generalize xs.length = Nx at *
  generalize ys.length = Ny at *
  generalize M.length = NM at *
  clear hr hd h K1 hn
  go_enter Try.func36, Try.ntmps36
  go_wp2_with fail
  go_region
  go_wp2_with fail
  refine DR.mono ?_
  rintro e w2 ⟨u', M', v', c', L', rfl, hB, hPl⟩
  obtain ⟨ad3, cap3, hu3⟩ := own_slice hB.own
  have HF := hide (And.intro hPl hB)
  subst hu3
  clear DR hB hPl
  go_wp2
  go_ret2
  exact ⟨_, rfl, M', v', c', L', HF.out.1, HF.out.2⟩
end Go.Proofs.Ythajboipnjjgfaa.Ly
