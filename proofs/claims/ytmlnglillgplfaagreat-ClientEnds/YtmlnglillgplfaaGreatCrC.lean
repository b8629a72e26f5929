import Derived.Test.YtmlnglillgplfaaGreatCrB
namespace Go.Proofs.YtmlnglillgplfaaGreat.Cl
open Go.RowKit Go.Maps
set_option linter.unusedVariables false
/-- the client behind i sendings -/
def Cs.nth (hosts pat tries : Int) (hb mb : Nat) (k key hi : Int) (v o : Sl) (has : Bool) (lim : Int) (i : Nat) (tk : Int) : Cs := ⟨hosts, pat, tries, hb, k, key, hi, v, o, has, lim, 1, 1, 0, Sl.nil, Sl.nil, 0, (((i - 1) / 2 : Nat) : Int), (i : Int), 0, mb, tk, (((i - 1) % 2 : Nat) : Int)⟩
/-- a tick that sends -/
theorem nth_again {w : World} {b nb : Nat} {D : DataW Unit} {V O : List Int} {hosts pat tries : Int} {hb mb : Nat} {k key hi : Int} {v o : Sl} {has : Bool} {lim : Int} {i : Nat} (h : Cl w b (Cs.nth hosts pat tries hb mb k key hi v o has lim i (pat - 1)) nb D V O)
    (h0 : 1 ≤ hosts) (h1 : hosts ≤ 16) (p0 : 1 ≤ pat) (p1 : pat ≤ 64) (i0 : 1 ≤ i) (i1 : (i : Int) < 2 * hosts) (ht : (i : Int) ≠ tries) :
    Calls Tryz.prog 18 #[.pointer (some ⟨b, 0, none⟩)] w fun e w' => ∃ g v1 o1, e = .returned (.slice (some ⟨g, 0, none⟩) 1 1) ∧ w'.heap[g]? = some (.cells (outC ((i / 2 : Nat) : Int) (Cs.nth hosts pat tries hb mb k key hi v o has lim i (pat - 1)) v1 o1) 38 (0, 0)) ∧ Bt w' v1 V ∧ Bt w' o1 O ∧ w.heap.size ≤ g ∧ (∃ nb' D', Cl w' b (Cs.nth hosts pat tries hb mb k key hi v o has lim (i + 1) 0) nb' D' V O) ∧ Kp (fun j => j = b ∨ j = mb) w w' := by
  have TA := tick_again h rfl (by show (0 : Int) ≤ pat - 1; omega) (by show pat - 1 ≤ 1000; omega) (by show ¬ pat - 1 + 1 < pat; omega) (by show ¬ (i : Int) - 0 = tries; omega) (by show (0 : Int) ≤ (i : Int); omega) (by show (i : Int) ≤ 1000; omega) (by show (0 : Int) ≤ 0; omega) (by show (0 : Int) ≤ 1000; omega) (by show (0 : Int) ≤ (((i - 1) / 2 : Nat) : Int); omega) (by show (((i - 1) / 2 : Nat) : Int) < hosts; omega) h1 (by show (0 : Int) ≤ (((i - 1) % 2 : Nat) : Int); omega) (by show (((i - 1) % 2 : Nat) : Int) ≤ 1; omega)
  refine TA.mono ?_
  rintro e w' ⟨g, rfl, hsn, hgl, hcl, hk⟩
  have e1 : (if (Cs.nth hosts pat tries hb mb k key hi v o has lim i (pat - 1)).tmo = 1 then nxt (Cs.nth hosts pat tries hb mb k key hi v o has lim i (pat - 1)).host (Cs.nth hosts pat tries hb mb k key hi v o has lim i (pat - 1)).hosts else (Cs.nth hosts pat tries hb mb k key hi v o has lim i (pat - 1)).host) = ((i / 2 : Nat) : Int) := to_next i0 i1
  have e2 : (if (Cs.nth hosts pat tries hb mb k key hi v o has lim i (pat - 1)).tmo = 1 then (0 : Int) else 1) = ((i % 2 : Nat) : Int) := tmo_next i0
  rw [e1] at hsn hcl
  rw [e2] at hcl
  obtain ⟨g', v1, o1, eg, hg, hv1, ho1⟩ := hsn.out
  simp only [Value.slice.injEq, Option.some.injEq, Addr.mk.injEq, and_true] at eg
  obtain rfl := eg
  have e3 : ({ Cs.nth hosts pat tries hb mb k key hi v o has lim i (pat - 1) with host := ((i / 2 : Nat) : Int), sent := (Cs.nth hosts pat tries hb mb k key hi v o has lim i (pat - 1)).sent + 1, ticks := 0, tmo := ((i % 2 : Nat) : Int) } : Cs) = Cs.nth hosts pat tries hb mb k key hi v o has lim (i + 1) 0 := by
    simp [Cs.nth]
  rw [e3] at hcl
  exact ⟨g, v1, o1, rfl, hg, hv1, ho1, hgl, ⟨_, _, hcl⟩, hk⟩
theorem nth_less {w : World} {b nb : Nat} {D : DataW Unit} {V O : List Int} {hosts pat tries : Int} {hb mb : Nat} {k key hi : Int} {v o : Sl} {has : Bool} {lim : Int} {i : Nat} {t : Int} (h : Cl w b (Cs.nth hosts pat tries hb mb k key hi v o has lim i t) nb D V O) (t0 : 0 ≤ t) (p1 : pat ≤ 64) (ht : t + 1 < pat) :
    Calls Tryz.prog 18 #[.pointer (some ⟨b, 0, none⟩)] w fun e w' => e = .returned (.slice none 0 0) ∧ Cl w' b (Cs.nth hosts pat tries hb mb k key hi v o has lim i (t + 1)) nb D V O ∧ Kp (fun j => j = b) w w' :=
  tick_less h rfl t0 (by show t ≤ 1000; omega) ht
end Go.Proofs.YtmlnglillgplfaaGreat.Cl
