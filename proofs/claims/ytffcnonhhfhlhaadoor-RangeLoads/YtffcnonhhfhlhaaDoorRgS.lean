import Derived.Test.YtffcnonhhfhlhaaDoorRgR
namespace Go.Proofs.YtffcnonhhfhlhaaDoor.Rg
open Go.RowKit Go.Shelf Go.Sort
open Go.Proofs.YtffcnonhhfhlhaaDoor.It
set_option linter.unusedVariables false

/-- what Assign of a step leaves -/
def stp (L : List Sg) (lim : Int) (s : Sp) : List Sg := if s.lo ≤ s.hi ∧ s.h < 16 ∧ (L.length : Int) + costB L s.lo s.hi s.h ≤ lim then asg L s.lo s.hi s.h else L
def cod (L : List Sg) (lim : Int) (s : Sp) : Int := if s.hi < s.lo then 60 else if ¬ s.h < 16 then 2 else if lim < (L.length : Int) + costB L s.lo s.hi s.h then 61 else 0

theorem assign_any {B b : Nat} {w : World} {lim : Int} {v : Value} {L : List Sg} (h : Tb B w b lim v L) (s : Sp) (f : 0 ≤ s.lo ∧ s.lo < 18446744073709551616 ∧ 0 ≤ s.hi ∧ s.hi < 18446744073709551616 ∧ 0 ≤ s.h ∧ s.h < 256) (hBw : B ≤ w.heap.size) :
    Calls Tryd.prog 16 #[.pointer (some ⟨b, 0, none⟩), .int .u64 s.lo, .int .u64 s.hi, .int .u8 s.h] w fun e w' => e = .returned (.int .i64 (cod L lim s)) ∧ ∃ v', Tb B w' b lim v' (stp L lim s) ∧ Kp (fun k => k = b) w w' := by
  unfold cod stp
  by_cases h1 : s.hi < s.lo
  · rw [if_pos h1, if_neg (by omega)]
    refine (assign_bad h s.lo s.hi s.h h1).mono ?_
    rintro e w' ⟨rfl, rfl⟩
    exact ⟨rfl, v, h, Kp.refl _ _⟩
  rw [if_neg h1]
  by_cases h2 : s.h < 16
  · rw [if_neg (fun x => x h2)]
    by_cases h3 : lim < (L.length : Int) + costB L s.lo s.hi s.h
    · rw [if_pos h3, if_neg (by omega)]
      refine (assign_full h s.lo s.hi s.h f.1 (by omega) f.2.2.2.1 h2 h3).mono ?_
      rintro e w' ⟨rfl, hk⟩
      exact ⟨rfl, v, h.nu hk, hk.mono (fun _ _ h => h.elim)⟩
    · rw [if_neg h3, if_pos (by omega)]
      refine (assign_ok h s.lo s.hi s.h f.1 (by omega) f.2.2.2.1 f.2.2.2.2.1 h2 (by omega) hBw).mono ?_
      rintro e w' ⟨rfl, v', hT, hk⟩
      exact ⟨rfl, v', hT, hk⟩
  · rw [if_pos h2, if_neg (by omega)]
    refine (assign_arg h s.lo s.hi s.h (by omega) h2).mono ?_
    rintro e w' ⟨rfl, rfl⟩
    exact ⟨rfl, v, h, Kp.refl _ _⟩

/-- what lay below w0 stands through whatever is done to a table made since -/
theorem SpAt.keep {w0 w w' : World} {B b : Nat} {bs o : Nat} {s : Sp} (h : SpAt w0 bs o s) (k : Kp (fun k => w0.heap.size ≤ k) w0 w) : SpAt w bs o s := by
  have q : ∀ {a : Addr} {u : Value}, w0.cell? a = some u → w.cell? a = some u := fun h =>
    (World.cell?_of_block (k.block _ (World.block_lt_of_cell? w0 _ h) (fun h2 => by
      have := World.block_lt_of_cell? w0 _ h
      have h3 : w0.heap.size ≤ _ := h2
      omega))).trans h
  exact ⟨q h.c0, q h.c1, q h.c2, q h.c3, h.fit⟩

/-- whose a key is, behind steps that are all taken -/
theorem stp_ow {L : List Sg} (h : Tab L) {lim : Int} {s : Sp} (f : 0 ≤ s.lo ∧ s.lo < 18446744073709551616 ∧ 0 ≤ s.hi ∧ s.hi < 18446744073709551616 ∧ 0 ≤ s.h ∧ s.h < 256) (hl : (L.length : Int) + 2 ≤ lim) {k : Int} (k0 : 0 ≤ k) (k1 : k < 18446744073709551616) :
    ow (stp L lim s) k = if (s.lo ≤ s.hi ∧ s.h < 16) ∧ s.lo ≤ k ∧ k ≤ s.hi then s.h else ow L k := by
  unfold stp
  by_cases g : s.lo ≤ s.hi ∧ s.h < 16
  · have c := cost_range h s.h f.1 g.1 f.2.2.2.1
    rw [if_pos ⟨g.1, g.2, by omega⟩]
    obtain ⟨t1, t2, t3⟩ := asg_facts h f.1 g.1 f.2.2.2.1 f.2.2.2.2.1 g.2
    rw [t2 k k0 k1]
    by_cases e : s.lo ≤ k ∧ k ≤ s.hi
    · rw [if_pos e, if_pos ⟨g, e⟩]
    · rw [if_neg e, if_neg (fun x => e x.2)]
  · rw [if_neg (fun x => g ⟨x.1, x.2.1⟩), if_neg (fun x => g x.1)]
theorem stp_len {L : List Sg} (h : Tab L) {lim : Int} {s : Sp} (f : 0 ≤ s.lo ∧ s.lo < 18446744073709551616 ∧ 0 ≤ s.hi ∧ s.hi < 18446744073709551616 ∧ 0 ≤ s.h ∧ s.h < 256) : ((stp L lim s).length : Int) ≤ L.length + 2 := by
  unfold stp
  split
  · rename_i g
    have c := cost_range h s.h f.1 g.1 f.2.2.2.1
    obtain ⟨t1, t2, t3⟩ := asg_facts h f.1 g.1 f.2.2.2.1 f.2.2.2.2.1 g.2.1
    omega
  · omega
theorem stp_code {L : List Sg} (h : Tab L) {lim : Int} {s : Sp} (f : 0 ≤ s.lo ∧ s.lo < 18446744073709551616 ∧ 0 ≤ s.hi ∧ s.hi < 18446744073709551616 ∧ 0 ≤ s.h ∧ s.h < 256) (hl : (L.length : Int) + 2 ≤ lim) : (cod L lim s == 0) = decide (s.lo ≤ s.hi ∧ s.h < 16) := by
  unfold cod
  by_cases g : s.lo ≤ s.hi ∧ s.h < 16
  · have c := cost_range h s.h f.1 g.1 f.2.2.2.1
    rw [if_neg (by omega), if_neg (fun x => x g.2), if_neg (by omega), decide_eq_true g]; rfl
  · rw [decide_eq_false g]
    by_cases e : s.hi < s.lo
    · rw [if_pos e]; rfl
    · rw [if_neg e, if_pos (by omega)]; rfl
/-- a single key's owner owns it -/
theorem owns_one {L : List Sg} (h : Tab L) {k : Int} (k0 : 0 ≤ k) (k1 : k < 18446744073709551616) : ownsB L k k (ow L k) = true := by
  unfold ownsB
  have key : ∀ {L : List Sg} {a b : Int}, Cov a L b → a ≤ k → k < b → (tk k k (L.drop (plc L k))).all (fun s => s.h == ow L k) = true := by
    intro L
    induction L with
    | nil => intro a b h ha hb; have e : a = b := h; omega
    | cons s r ih =>
      intro a b h ha hb
      obtain ⟨h1, h2, h3⟩ := h
      simp only [plc, ow]
      by_cases e : k ≤ s.hi
      · rw [if_pos e, if_pos e]
        simp only [List.drop_zero, tk]
        rw [if_neg (by omega), tk_stop h3 (by omega)]
        simp [cutS]
      · rw [if_neg e, if_neg e]
        simpa using ih h3 (by omega) hb
  exact key h.cov k0 k1
end Go.Proofs.YtffcnonhhfhlhaaDoor.Rg
