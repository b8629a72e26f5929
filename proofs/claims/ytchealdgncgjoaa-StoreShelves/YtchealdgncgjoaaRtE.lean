import Derived.Test.YtchealdgncgjoaaRtD
import Derived.BigQuiet
import Derived.Deep.QuietTactic
namespace Go.Proofs.Ytchealdgncgjoaa.StU
open Go.RowKit Go.Proofs.Ytchealdgncgjoaa.St Go.Shelf
set_option linter.unusedVariables false
set_option linter.unusedSimpArgs false
theorem kv_at {SA SB : List Pg} (h : SA.map kv = SB.map kv) {i : Nat} {a b : Pg} (ha : SA[i]? = some a) (hb : SB[i]? = some b) : a.k = b.k ∧ a.ys = b.ys := by
  have h1 : (SA.map kv)[i]? = some (kv a) := by rw [List.getElem?_map, ha]; rfl
  rw [h, List.getElem?_map, hb] at h1
  have h2 : kv b = kv a := Option.some.inj h1
  unfold kv at h2
  exact ⟨(congrArg Prod.fst h2).symm, (congrArg Prod.snd h2).symm⟩
set_option maxRecDepth 100000 in
set_option maxHeartbeats 4000000 in
theorem same75 (w : World) (va vb : Value) (SA SB : List Pg) (ha : Wp w va SA) (hb : Wp w vb SB) (he : SA.map kv = SB.map kv) (hl : SA.length ≤ 4398046511104) : Calls Try.prog 75 #[va, vb] w fun e w' => e = .returned (.bool true) ∧ Kp Nu w w' := by
  have mixed : Try.prog.follows .mixedOrders = true := by kernel_rfl
  have hlen : SB.length = SA.length := by have := congrArg List.length he; simpa using this.symm
  obtain ⟨ada, capa, rfl, hca⟩ := ha
  obtain ⟨adb, capb, rfl, hcb⟩ := hb
  rw [hlen]
  obtain ⟨N, eN⟩ : ∃ N, SA.length = N := ⟨_, rfl⟩
  rw [eN]
  have HH := hide (And.intro eN (And.intro (hlen.trans eN) (And.intro hl he)))
  have HA := hide hca
  have HB := hide hcb
  clear hca hcb he hl hlen eN
  go_enter Try.func75, Try.ntmps75
  go_wp2_with fail
  go_loopw [5] (fun it wr => ∃ i : Nat, it = .int .i64 (i : Int) ∧ i ≤ N ∧ Hid (Kp Nu w wr)) (fun it _ => N - (intOf it).toNat)
  case atStart => exact ⟨0, rfl, Nat.zero_le _, Kp.refl _ _⟩
  case round =>
    obtain ⟨i, rfl, hi, HK⟩ := hrel
    by_cases hlt : i < N
    · obtain ⟨a, hai⟩ : ∃ a, SA[i]? = some a := ⟨_, List.getElem?_eq_getElem (by rw [HH.out.1]; exact hlt)⟩
      obtain ⟨b, hbi⟩ : ∃ b, SB[i]? = some b := ⟨_, List.getElem?_eq_getElem (by rw [HH.out.2.1]; exact hlt)⟩
      obtain ⟨e1, e2⟩ := kv_at HH.out.2.2.2 hai hbi
      obtain ⟨ba, oa, ea, a0, a1, ard, aby, _⟩ := HA.out i a hai
      obtain ⟨bb, ob, eb, b0, b1, brd, bby, _⟩ := HB.out i b hbi
      subst ea eb
      obtain ⟨ak, ⟨aa, an, ac⟩, ay⟩ := a
      obtain ⟨bk, ⟨bA, bn, bc⟩, byy⟩ := b
      simp only at e1 e2 a0 a1 ard aby b0 b1 brd bby
      subst e1 e2
      have kw := HK.out
      have c0 := cell_nu a0 kw
      have c1 := cell_nu a1 kw
      have d0 := cell_nu b0 kw
      have d1 := cell_nu b1 kw
      have cv1 : ∀ n, (convert 74 9 (.slice aa an ac)).run Try.prog (wr.drewN n) = .ok (.string (bstr ay)) (wr.drewN n) := fun n => conv_rd (ard.nu (kpN kw n)) aby
      have cv2 : ∀ n, (convert 74 9 (.slice bA bn bc)).run Try.prog (wr.drewN n) = .ok (.string (bstr ay)) (wr.drewN n) := fun n => conv_rd (brd.nu (kpN kw n)) aby
      generalize bstr ay = bs at *
      have hltI : (i : Int) < (N : Int) := by omega
      have hi00 : (0 : Int) ≤ (i : Int) := by omega
      have hwi := wq (i : Int) hi00 (by have := HH.out.2.2.1; have := HH.out.1; omega)
      have HE := hide (And.intro hlt hwi)
      have HQ : Hid (∀ n, Kp Nu w (wr.drewN n)) := hide (fun n => kpN kw n)
      clear hai hbi a0 a1 b0 b1 ard aby brd bby kw hlt hi hwi
      go_wp2_with fail
      go_quiet (fail)
      have HZ := hide (HQ.out nq)
      clear mixed
      go_wp2_with fail
      rw [HE.out.2]
      exact ⟨⟨i + 1, by go_num, sq HE.out.1, HZ⟩, mq HE.out.1⟩
    · obtain rfl : i = N := by omega
      have hnl : ¬ (i : Int) < (i : Int) := by omega
      clear hi hlt mixed
      go_wp2
      go_ret
      exact ⟨rfl, HK.out⟩
end Go.Proofs.Ytchealdgncgjoaa.StU
