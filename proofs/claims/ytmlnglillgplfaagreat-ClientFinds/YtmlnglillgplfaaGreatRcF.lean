import Derived.Test.YtmlnglillgplfaaGreatRcE
import Derived.Test.YtmlnglillgplfaaGreatWcF
import Derived.Test.YtmlnglillgplfaaGreatCtB
namespace Go.Proofs.YtmlnglillgplfaaGreat.Cl
open Go.RowKit
set_option linter.unusedVariables false
/-- a request's message -/
def rqM (k seq key hi : Int) (v o : Sl) (has : Bool) (lim : Int) : Mg := ⟨k, seq, key, hi, v, o, has, 0, 0, 0, 0, 0, 0, lim, Sl.nil, Sl.nil, Sl.nil⟩
/-- the request may be -/
def RqOk (k key hi : Int) (v o : Sl) (has : Bool) (lim : Int) : Prop := (1 ≤ k ∧ k ≤ 5) ∧ (∀ f ∈ ul (rqM k 1 key hi v o has lim), (rqM k 1 key hi v o has lim).rul f) ∧ Alike (rqM k 1 key hi v o has lim) ((Mg.bare k).lays (rqM k 1 key hi v o has lim) (ul (rqM k 1 key hi v o has lim)))
structure RqB (k key hi lim : Int) : Prop where
  k : 0 ≤ k ∧ k < 256
  key : 0 ≤ key ∧ key < 18446744073709551616
  hi : 0 ≤ hi ∧ hi < 18446744073709551616
  lim : 0 ≤ lim ∧ lim < 256
theorem rqM_ok {k seq key hi lim : Int} {v o : Sl} {has : Bool} (h : RqB k key hi lim) (hs : 0 ≤ seq ∧ seq < 18446744073709551616) : (rqM k seq key hi v o has lim).Ok :=
  ⟨h.k, hs, h.key, h.hi, by simp [rqM], by simp [rqM], by simp [rqM], by simp [rqM], by simp [rqM], by simp [rqM], h.lim⟩
/-- .. so wire's Check allows it, whatever its number -/
theorem rq_fit {k key hi lim : Int} {v o : Sl} {has : Bool} (h : RqOk k key hi v o has lim) (seq : Int) (hs : 1 ≤ seq) :
    (∀ f ∈ flds k, (rqM k seq key hi v o has lim).okf f) ∧ (rqM k seq key hi v o has lim).ans = [] ∧ (((rqM k seq key hi v o has lim).clfs (flds k)).clfs (rqM k seq key hi v o has lim).ans).Blank ∧ (v.n : Int) ≤ 64 ∧ (o.n : Int) ≤ 64 := by
  obtain ⟨⟨k1, k5⟩, hr, ha⟩ := h
  have hans : (rqM k seq key hi v o has lim).ans = [] := by
    have : k ≠ 6 := by omega
    simp [Mg.ans, rqM, this]
  rw [hans]
  have hc : k = 1 ∨ k = 2 ∨ k = 3 ∨ k = 4 ∨ k = 5 := by omega
  rcases hc with rfl | rfl | rfl | rfl | rfl
  all_goals simp [ul, rqM, Mg.rul] at hr
  all_goals (obtain ⟨a1, a2, a3, a4, a5, a6, a7, a8, a9, a10, a11, a12, a13, a14, a15⟩ := ha; simp [ul, rqM, Mg.lays, Mg.lay, Mg.bare, Sl.nil] at a1 a2 a3 a4 a5 a6 a7 a8 a9 a10 a11 a12 a13 a14 a15)
  all_goals refine ⟨?_, rfl, ?_, ?_, ?_⟩
  all_goals first
    | (intro f hf; simp [flds] at hf; rcases hf with rfl | rfl | rfl | rfl <;> simp [Mg.okf, rqM] <;> omega)
    | (intro f hf; simp [flds] at hf; rcases hf with rfl | rfl | rfl <;> simp [Mg.okf, rqM] <;> omega)
    | (intro f hf; simp [flds] at hf; rcases hf with rfl | rfl <;> simp [Mg.okf, rqM] <;> omega)
    | skip
  all_goals first
    | omega
    | (intro f hf; simp [flds] at hf; rcases hf with rfl | rfl | rfl | rfl <;> first | (simp [Mg.okf, rqM]; done) | (simp [Mg.okf, rqM]; omega) | (simp_all [Mg.okf, rqM]; done) | (simp_all [Mg.okf, rqM]; omega))
    | (refine ⟨?_, ?_, ?_, ?_, ?_, ?_, ?_⟩ <;> first | (simp [Mg.clfs, flds, Mg.clf, Mg.clr, rqM, Sl.nil]; done) | (simp [Mg.clfs, flds, Mg.clf, Mg.clr, rqM, Sl.nil]; omega) | (simp [Mg.clfs, flds, Mg.clf, Mg.clr, rqM, Sl.nil]; assumption) | (intro n hn; have hc : n = 0 ∨ n = 1 ∨ n = 2 ∨ n = 3 ∨ n = 4 ∨ n = 5 ∨ n = 6 ∨ n = 7 ∨ n = 8 ∨ n = 9 := (by omega); rcases hc with rfl | rfl | rfl | rfl | rfl | rfl | rfl | rfl | rfl | rfl <;> first | (simp [Mg.num, Mg.clfs, flds, Mg.clf, Mg.clr, rqM]; done) | (simp [Mg.num, Mg.clfs, flds, Mg.clf, Mg.clr, rqM]; omega)))
    | exact ()
set_option maxRecDepth 100000 in
set_option maxHeartbeats 2000000 in
theorem mayBe_any (w : World) (k key hi lim : Int) (v o : Sl) (has : Bool) (V O : List Int) (hB : RqB k key hi lim) (hv : Ct w v V) (ho : Ct w o O) :
    Calls Tryz.prog 16 #[.agg #[.int .u8 k, .int .u64 key, .int .u64 hi, v.val, o.val, .bool has, .int .u8 lim]] w fun e w' => Ans (RqOk k key hi v o has lim) e ∧ Kp Nu w w' := by
  have MS := fun W => message_any W k key hi lim 1 v.a o.a v.n v.c o.n o.c has
  have RC := fun W (kp : Kp Nu w W) => refCheck W (rqM k 1 key hi v o has lim) (rqM_ok hB (by omega)) ⟨⟨V, hv.nu kp⟩, ⟨O, ho.nu kp⟩, ⟨[], Ct.nil W⟩, rfl, rfl⟩
  have e1 := wrapI hB.k
  clear hv ho hB
  have HQ : Hid (ChkA (rqM k 1 key hi v o has lim) = ChkA (rqM k 1 key hi v o has lim)) := rfl
  unfold Sl.val
  simp only [Mg.cells, rqM, Sl.val, Sl.nil] at RC
  go_enter Tryz.func16, Tryz.ntmps16
  go_wp2_with fail
  refine (MS _).mono ?_; rintro e w1 ⟨rfl, hk1⟩
  have K1 := (Kp.alloc w _ Nu).andNu hk1
  have hA := new_at w _ hk1
  have HK1 := hide K1
  have HA := hide hA
  clear MS hk1 K1 hA
  go_wp2_with (first | (guard_target =~ wpList _ _ _ ({ dst := none, op := Op.store 36 (Operand.tmp 3) (Operand.tmp 6), type := _, pos := _, after := _, guard := _ } :: _) _ _; refine wpList_store_new 36 17 (.tmp 3) (.tmp 6) rfl rfl info36 _ _ _ rfl rfl (by simp) rfl rfl (by simp [Value.oneCell']) ?_) | (guard_target =~ wpList _ _ _ ({ dst := _, op := Op.load 36 (Operand.tmp 3), type := _, pos := _, after := _, guard := _ } :: _) _ _; refine wpList_load_all 36 17 (.tmp 3) rfl rfl info36 _ Tryz.underlying36 rfl _ rfl (heap_new w1 _) rfl ?_))
  refine (RC _ (HK1.out.andAlloc _)).mono ?_; rintro e w2 ⟨⟨n, rfl, hn⟩, hk2⟩
  have hA2 := (((Kp.alloc w1 _ Nu).andNu hk2).block _ (blk_lt HA.out) (fun h => h)).trans HA.out
  have x0 := cellAt hA2 0 (by rfl)
  have HK2 := hide ((HK1.out.andAlloc _).andNu hk2)
  have HN := hide hn
  clear RC hk2 hn hA2
  by_cases h1 : k ≥ 1
  case neg =>
    go_wp2
    go_ret
    exact ⟨⟨_, rfl, fun h => by cases h⟩, HK2.out⟩
  case pos =>
  by_cases h5 : k ≤ 5
  case neg =>
    go_wp2
    go_ret
    exact ⟨⟨_, rfl, fun h => by cases h⟩, HK2.out⟩
  case pos =>
  by_cases h0 : n = 0
  case neg =>
    have hq : (n == 0) = false := by simpa using h0
    clear h0
    go_wp2
    go_ret
    exact ⟨⟨_, rfl, fun h => by first | (cases h; done) | (simp_all; done)⟩, HK2.out⟩
  case pos =>
    have HR := hide (HN.out h0)
    subst h0
    have H15 := hide (And.intro h1 h5)
    go_wp2
    go_ret
    exact ⟨⟨_, rfl, fun _ => ⟨H15.out, HR.out.2.2.1, HR.out.2.2.2⟩⟩, HK2.out⟩
end Go.Proofs.YtmlnglillgplfaaGreat.Cl
