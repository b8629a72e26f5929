import Derived.Test.YtmlnglillgplfaaGreatCtH
namespace Go.Proofs.YtmlnglillgplfaaGreat.Cl
open Go.RowKit Go.Maps
set_option linter.unusedVariables false
structure Lim (hosts pat tries : Int) : Prop where
  h0 : hosts ≥ 1
  h1 : hosts ≤ 16
  p0 : pat ≥ 1
  p1 : pat ≤ 64
  t0 : tries ≥ 1
  t1 : tries ≤ 64
theorem limits_any (w : World) (hosts pat tries : Int) : Calls Tryz.prog 15 #[.int .i64 hosts, .int .i64 pat, .int .i64 tries] w fun e w' => Ans (Lim hosts pat tries) e ∧ w' = w := by
  by_cases c0 : hosts ≥ 1
  case neg =>
    go_enter Tryz.func15, Tryz.ntmps15
    go_wp2
    go_ret
    exact ⟨⟨_, rfl, fun h => by cases h⟩, rfl⟩
  case pos =>
  by_cases c1 : hosts ≤ 16
  case neg =>
    go_enter Tryz.func15, Tryz.ntmps15
    go_wp2
    go_ret
    exact ⟨⟨_, rfl, fun h => by cases h⟩, rfl⟩
  case pos =>
  by_cases c2 : pat ≥ 1
  case neg =>
    go_enter Tryz.func15, Tryz.ntmps15
    go_wp2
    go_ret
    exact ⟨⟨_, rfl, fun h => by cases h⟩, rfl⟩
  case pos =>
  by_cases c3 : pat ≤ 64
  case neg =>
    go_enter Tryz.func15, Tryz.ntmps15
    go_wp2
    go_ret
    exact ⟨⟨_, rfl, fun h => by cases h⟩, rfl⟩
  case pos =>
  by_cases c4 : tries ≥ 1
  case neg =>
    go_enter Tryz.func15, Tryz.ntmps15
    go_wp2
    go_ret
    exact ⟨⟨_, rfl, fun h => by cases h⟩, rfl⟩
  case pos =>
  by_cases c5 : tries ≤ 64
  case neg =>
    go_enter Tryz.func15, Tryz.ntmps15
    go_wp2
    go_ret
    exact ⟨⟨_, rfl, fun h => by cases h⟩, rfl⟩
  case pos =>
  have HL : Hid (Lim hosts pat tries) := ⟨c0, c1, c2, c3, c4, c5⟩
  go_enter Tryz.func15, Tryz.ntmps15
  go_wp2
  go_ret
  exact ⟨⟨_, rfl, fun _ => HL.out⟩, rfl⟩
end Go.Proofs.YtmlnglillgplfaaGreat.Cl
namespace Go.Proofs.YtmlnglillgplfaaGreat.Cl
open Go.RowKit Go.Maps
set_option linter.unusedVariables false
/-- how often host h was asked behind i sendings -/
def tm (i h : Nat) : Int := if 2 * h + 2 ≤ i then 2 else if 2 * h + 1 ≤ i then 1 else 0
def tmL (i : Nat) : List Value := (List.range 16).map (fun h => .int .i64 (tm i h))
theorem tm_at (i h : Nat) (hh : h < 16) : (tmL i).toArray[h]? = some (.int .i64 (tm i h)) := by
  simp [tmL, hh]
theorem tm_one : (tmL 1).toArray = #[.int .i64 1, .int .i64 0, .int .i64 0, .int .i64 0, .int .i64 0, .int .i64 0, .int .i64 0, .int .i64 0, .int .i64 0, .int .i64 0, .int .i64 0, .int .i64 0, .int .i64 0, .int .i64 0, .int .i64 0, .int .i64 0] := rfl
theorem tm_same (i : Nat) : tm i (i / 2) + 1 = tm (i + 1) (i / 2) := by
  unfold tm
  split
  · omega
  · split <;> (repeat (first | split | omega))
theorem tm_other (i h : Nat) (hne : h ≠ i / 2) : tm (i + 1) h = tm i h := by
  unfold tm
  repeat (first | split | omega)
theorem tm_next (i : Nat) (hi : i / 2 < 16) : (tmL i).toArray.setIfInBounds (i / 2) (.int .i64 (tm i (i / 2) + 1)) = (tmL (i + 1)).toArray := by
  rw [List.setIfInBounds_toArray]
  congr 1
  apply List.ext_getElem?
  intro h
  rw [List.getElem?_set]
  by_cases e : i / 2 = h
  · subst e
    have : i / 2 < (tmL i).length := by simpa [tmL] using hi
    rw [if_pos rfl, if_pos this]
    have h2 := tm_at (i + 1) (i / 2) hi
    simp only [List.getElem?_toArray] at h2
    rw [h2, tm_same]
  · rw [if_neg e]
    by_cases hh : h < 16
    · have h1 := tm_at i h hh
      have h2 := tm_at (i + 1) h hh
      simp only [List.getElem?_toArray] at h1 h2
      rw [h1, h2, tm_other i h (fun x => e x.symm)]
    · rw [List.getElem?_eq_none (by simp [tmL]; omega), List.getElem?_eq_none (by simp [tmL]; omega)]
theorem tm_full {i h : Nat} (hh : 2 * h + 2 ≤ i) : tm i h = 2 := by unfold tm; rw [if_pos hh]
/-- who is asked next -/
theorem to_next {i : Nat} {hosts : Int} (h1 : 1 ≤ i) (h2 : (i : Int) < 2 * hosts) : (if (((i - 1) % 2 : Nat) : Int) = 1 then nxt (((i - 1) / 2 : Nat) : Int) hosts else (((i - 1) / 2 : Nat) : Int)) = ((i / 2 : Nat) : Int) := by
  split
  · rename_i e
    unfold nxt
    rw [if_neg (by omega)]
    omega
  · rename_i e
    omega
theorem tmo_next {i : Nat} (h1 : 1 ≤ i) : (if (((i - 1) % 2 : Nat) : Int) = 1 then (0 : Int) else 1) = ((i % 2 : Nat) : Int) := by
  split
  · rename_i e; omega
  · rename_i e; omega
end Go.Proofs.YtmlnglillgplfaaGreat.Cl
namespace Go.Proofs.YtmlnglillgplfaaGreat.Cl
open Go.RowKit Go.Maps
set_option linter.unusedVariables false
/-- the client behind i sendings -/
def Cs.nth (hosts pat tries : Int) (hb mb : Nat) (k key hi : Int) (v o : Sl) (has : Bool) (lim : Int) (i : Nat) (tk : Int) : Cs := ⟨hosts, pat, tries, hb, k, key, hi, v, o, has, lim, 1, 1, 0, Sl.nil, Sl.nil, 0, (((i - 1) / 2 : Nat) : Int), (i : Int), 0, mb, tk, (((i - 1) % 2 : Nat) : Int)⟩
/-- a tick that sends -/
theorem nth_again {w : World} {b nb : Nat} {D : DataW Unit} {V O : List Int} {hosts pat tries : Int} {hb mb : Nat} {k key hi : Int} {v o : Sl} {has : Bool} {lim : Int} {i : Nat} (h : Cl w b (Cs.nth hosts pat tries hb mb k key hi v o has lim i (pat - 1)) nb D V O)
    (h0 : 1 ≤ hosts) (h1 : hosts ≤ 16) (p0 : 1 ≤ pat) (p1 : pat ≤ 64) (i0 : 1 ≤ i) (i1 : (i : Int) < 2 * hosts) (ht : (i : Int) ≠ tries) :
    Calls Tryz.prog 18 #[.pointer (some ⟨b, 0, none⟩)] w fun e w' => ∃ g v1 o1, e = .returned (.slice (some ⟨g, 0, none⟩) 1 1) ∧ w'.heap[g]? = some (.cells (outC ((i / 2 : Nat) : Int) (Cs.nth hosts pat tries hb mb k key hi v o has lim i (pat - 1)) v1 o1) 38 (0, 0)) ∧ Bt w' v1 V ∧ Bt w' o1 O ∧ w.heap.size ≤ g ∧ (∃ nb' D', Cl w' b (Cs.nth hosts pat tries hb mb k key hi v o has lim (i + 1) 0) nb' D' V O) ∧ Kp (fun j => j = b ∨ j = mb) w w' := by
  have TA := tick_again h rfl (by show (0 : Int) ≤ pat - 1; omega) (by show pat - 1 ≤ 1000; omega) (by show ¬ pat - 1 + 1 < pat; omega) (by show ¬ (i : Int) - 0 = tries; omega) (by show (0 : Int) ≤ (i : Int); omega) (by show (i : Int) ≤ 1000; omega) (by show (0 : Int) ≤ 0; omega) (by show (0 : Int) ≤ 1000; omega) (by show (0 : Int) ≤ (((i - 1) / 2 : Nat) : Int); omega) (by show (((i - 1) / 2 : Nat) : Int) < hosts; omega) h1 (by show (0 : Int) ≤ (((i - 1) % 2 : Nat) : Int); omega) (by show (((i - 1) % 2 : Nat) : Int) ≤ 1; omega)
  refine TA.mono ?_
  rintro e w' ⟨g, rfl, hsn, hgl, hcl, hk⟩
  have e1 : (if (Cs.nth hosts pat tries hb mb k key hi v o has lim i (pat - 1)).tmo = 1 then nxt (Cs.nth hosts pat tries hb mb k key hi v o has lim i (pat - 1)).host (Cs.nth hosts pat tries hb mb k key hi v o has lim i (pat - 1)).hosts else (Cs.nth hosts pat tries hb mb k key hi v o has lim i (pat - 1)).host) = ((i / 2 : Nat) : Int) := to_next i0 i1
  have e2 : (if (Cs.nth hosts pat tries hb mb k key hi v o has lim i (pat - 1)).tmo = 1 then (0 : Int) else 1) = ((i % 2 : Nat) : Int) := tmo_next i0
  rw [e1] at hsn hcl
  rw [e2] at hcl
  obtain ⟨g', v1, o1, eg, hg, hv1, ho1⟩ := hsn.out
  simp only [Value.slice.injEq, Option.some.injEq, Addr.mk.injEq, and_true] at eg
  obtain rfl := eg
  have e3 : ({ Cs.nth hosts pat tries hb mb k key hi v o has lim i (pat - 1) with host := ((i / 2 : Nat) : Int), sent := (Cs.nth hosts pat tries hb mb k key hi v o has lim i (pat - 1)).sent + 1, ticks := 0, tmo := ((i % 2 : Nat) : Int) } : Cs) = Cs.nth hosts pat tries hb mb k key hi v o has lim (i + 1) 0 := by
    simp [Cs.nth]
  rw [e3] at hcl
  exact ⟨g, v1, o1, rfl, hg, hv1, ho1, hgl, ⟨_, _, hcl⟩, hk⟩
theorem nth_less {w : World} {b nb : Nat} {D : DataW Unit} {V O : List Int} {hosts pat tries : Int} {hb mb : Nat} {k key hi : Int} {v o : Sl} {has : Bool} {lim : Int} {i : Nat} {t : Int} (h : Cl w b (Cs.nth hosts pat tries hb mb k key hi v o has lim i t) nb D V O) (t0 : 0 ≤ t) (p1 : pat ≤ 64) (ht : t + 1 < pat) :
    Calls Tryz.prog 18 #[.pointer (some ⟨b, 0, none⟩)] w fun e w' => e = .returned (.slice none 0 0) ∧ Cl w' b (Cs.nth hosts pat tries hb mb k key hi v o has lim i (t + 1)) nb D V O ∧ Kp (fun j => j = b) w w' :=
  tick_less h rfl t0 (by show t ≤ 1000; omega) ht
end Go.Proofs.YtmlnglillgplfaaGreat.Cl
