import Derived.Test.YtbifmcadllilhaaPdD
namespace Go.Proofs.Ytbifmcadllilhaa.Rg
open Go.RowKit Go.Shelf Go.Sort
open Go.Proofs.Ytbifmcadllilhaa.It
set_option linter.unusedVariables false
/-- what Loads answers -/
def LoR (w w' : World) (n : Int) (M : List Sg) (ks : List Int) (v : Value) (c : Int) : Prop :=
  (¬ (1 ≤ n ∧ n ≤ 16) ∧ v = .slice none 0 0 ∧ c = 2) ∨ ((1 ≤ n ∧ n ≤ 16) ∧ ¬ LayB n M ks ∧ v = .slice none 0 0 ∧ c = 151) ∨
  ((1 ≤ n ∧ n ≤ 16) ∧ LayB n M ks ∧ c = 0 ∧ ∃ N : Nat, n = (N : Int) ∧ w'.ownsRow w.heap.size 3 1 v N (Pn.ics (Pn.lds N (ks.map (ow (lays [] M))))))
theorem Rs.of_own {w : World} {B : Nat} {v : Value} {T : List Sg} (h : w.ownsRow B 82 3 v T.length (cells T)) (hT : 0 < T.length) : Rs w v T := rs_of_own h hT
theorem ow_nn {L : List Sg} (h : Tab L) {k : Int} (h0 : 0 ≤ k) (h1 : k < 18446744073709551616) : 0 ≤ ow L k := by
  obtain ⟨s, hs, _, _, e, _⟩ := plc_facts h.cov h0 h1
  rw [← e]
  exact (h.hs s (List.mem_of_getElem? hs)).1
set_option maxRecDepth 100000 in
set_option maxHeartbeats 2000000 in
theorem loads20 (w : World) (n : Int) (u k : Value) (M : List Sg) (ks : List Int) (hM : Sgs w u M) (hlen : (M.length : Int) ≤ 5864062014634) (hk : Us w k ks) (hkl : ks.length * 8 ≤ 140737488351232) (hkr : ∀ x ∈ ks, 0 ≤ x ∧ x < 18446744073709551616) :
    Calls Try.prog 20 #[.int .i64 n, u, k] w fun e w' => ∃ v c, e = .returned (.tuple #[v, .int .i64 c]) ∧ LoR w w' n M ks v c ∧ Kp Nu w w' := by
  have mixed : Try.prog.follows .mixedOrders = true := by kernel_rfl
  have LA := layout44 w n u k M ks hM hlen hk (by omega)
  obtain ⟨ad, cap, hu⟩ := hM.slice
  obtain ⟨a1, c1, rfl, _, _⟩ := id hk
  obtain ⟨N, eN⟩ : ∃ N, ks.length = N := ⟨_, rfl⟩
  have HU := hide (And.intro hM (And.intro hk (And.intro eN (And.intro hkl hkr))))
  rw [eN] at hkl LA ⊢
  generalize M.length = NM at hu
  subst hu
  clear hM hk eN hlen hkr
  by_cases h1 : n < 1
  · have x1 : decide (n < 1) = true := by simpa using h1
    have H1 := hide h1
    clear h1 LA
    go_enter Try.func20, Try.ntmps20
    go_wp2
    go_ret2
    exact ⟨_, _, rfl, .inl ⟨fun h => by have := H1.out; omega, rfl, rfl⟩, Kp.refl _ _⟩
  have x1 : decide (n < 1) = false := by simpa using h1
  by_cases h2 : n > 16
  · have x2 : decide (n > 16) = true := by simpa using h2
    have H1 := hide h2
    clear h1 h2 LA
    go_enter Try.func20, Try.ntmps20
    go_wp2
    go_ret2
    exact ⟨_, _, rfl, .inl ⟨fun h => by have := H1.out; omega, rfl, rfl⟩, Kp.refl _ _⟩
  have x2 : decide (n > 16) = false := by simpa using h2
  have hn : 1 ≤ n ∧ n ≤ 16 := by omega
  have HN := hide hn
  clear h1 h2 hn
  go_enter Try.func20, Try.ntmps20
  go_wp2_with fail
  refine LA.mono ?_; rintro e w1 ⟨L, v, b, rfl, ⟨va, vl, vc, rfl⟩, hb, ho, hk1⟩
  have HL := hide (And.intro hb (And.intro ho hk1))
  clear LA hb ho hk1
  cases b with
  | false =>
    go_wp2
    go_ret2
    exact ⟨_, _, rfl, .inr (.inl ⟨HN.out, fun h => by simpa using HL.out.1.2 h, rfl, rfl⟩), HL.out.2.2.andAlloc _⟩
  | true =>
    have hLB := HL.out.1.1 rfl
    have hown := HL.out.2.1 rfl
    have tab := (lok_good hLB.1.1 hLB.1.2.1 HU.out.1.sgb).tab
    obtain ⟨T, eT⟩ : ∃ T, lays [] M = T := ⟨_, rfl⟩
    have hT8 := hLB.1.2.2
    rw [eT] at hown tab hT8
    have k2 := HL.out.2.2.andAlloc (.cells #[.int .i64 L, .slice va vl vc] 76)
    have rs := (rs_of_own hown (tab.ne)).nu (Kp.alloc w1 (.cells #[.int .i64 L, .slice va vl vc] 76) Nu)
    have OW := owners45 _ L (.slice va vl vc) T rs tab (by omega) _ ks (HU.out.2.1.nu k2) hLB.2.2 HU.out.2.2.2.2 HU.out.2.2.2.1
    rw [HU.out.2.2.1] at OW
    have HT := hide (And.intro hLB (And.intro tab (And.intro eT k2)))
    clear hLB hown tab eT hT8 k2 rs
    go_wp2_with fail
    refine OW.mono ?_; rintro e w2 ⟨oa, oc, rfl, ho2, hk2⟩
    obtain ⟨n', hn'⟩ : ∃ n' : Nat, n = (n' : Int) := ⟨n.toNat, by have := HN.out; omega⟩
    have CO := Pn.counted46 w2 n' (.slice oa N oc) (ks.map (ow T)) (by
      have e : N = (ks.map (ow T)).length := by rw [List.length_map, HU.out.2.2.1]
      refine Pn.Ns.of_own (B := (w1.alloc (.cells #[.int .i64 L, .slice va vl vc] 76)).heap.size) ?_
      rw [← e]
      exact ho2) (by have := HN.out; omega) (fun x hx => by
        obtain ⟨y, hy, rfl⟩ := List.mem_map.1 hx
        have := HU.out.2.2.2.2 y hy
        exact ow_nn HT.out.2.1 this.1 this.2) (by rw [List.length_map, HU.out.2.2.1]; omega)
    have H2 := hide (HT.out.2.2.2.andNu hk2)
    subst hn'
    clear OW ho2 hk2
    go_wp2_with fail
    refine CO.mono ?_; rintro e w3 ⟨g, rfl, ho3, hk3⟩
    have H3 := hide (And.intro (own_base ho3 H2.out.size) (H2.out.andNu (Kp.ofPn hk3)))
    clear CO ho3 hk3
    go_wp2
    go_ret2
    exact ⟨_, _, rfl, .inr (.inr ⟨HN.out, HT.out.1, rfl, n', rfl, by rw [HT.out.2.2.1]; exact H3.out.1⟩), H3.out.2⟩
end Go.Proofs.Ytbifmcadllilhaa.Rg
