import Derived.Test.YtbifmcadllilhaaPdG
import Derived.Test.YtbifmcadllilhaaPdE
import Derived.Test.YtbifmcadllilhaaPnC
namespace Go.Proofs.Ytbifmcadllilhaa.Rg
open Go.RowKit Go.Shelf Go.Sort
open Go.Proofs.Ytbifmcadllilhaa.It
set_option linter.unusedVariables false
theorem dl_len : ∀ (L : List Sg) (ks : List Int), (dl L ks).length = L.length
  | [], ks => rfl
  | s :: r, ks => by simp [dl, dl_len r]
theorem dl_le : ∀ (L : List Sg) (ks : List Int), ∀ m ∈ dl L ks, m ≤ ks.length
  | [], ks, m, h => by cases h
  | s :: r, ks, m, h => by
    rcases List.mem_cons.1 h with rfl | h
    · exact wth_le _ _
    · have := dl_le r _ m h
      rw [List.length_drop] at this
      omega
set_option maxRecDepth 100000 in
set_option maxHeartbeats 2000000 in
theorem loads19 (w : World) (n : Int) (u k : Value) (M : List Sg) (ks : List Int) (hM : Sgs w u M) (hlen : (M.length : Int) ≤ 5864062014634) (hk : Us w k ks) (hkl : ks.length * 8 ≤ 140737488351232) (hkr : ∀ x ∈ ks, 0 ≤ x ∧ x < 18446744073709551616) (hnil : ∀ m c, k = .slice none m c → c = 0) :
    Calls Try.prog 19 #[.int .i64 n, u, k] w fun e w' => ∃ v c, e = .returned (.tuple #[v, .int .i64 c]) ∧ LoR w w' n M ks v c ∧ Kp Nu w w' := by
  have HO := Pn.hosts41 w n
  have LA := layOut42 w n u k M ks hM hlen hk hkl hnil
  obtain ⟨ad, cap, hu⟩ := hM.slice
  obtain ⟨a1, c1, rfl, _, _⟩ := id hk
  obtain ⟨N, eN⟩ : ∃ N, ks.length = N := ⟨_, rfl⟩
  have HU := hide (And.intro hM (And.intro eN (And.intro hkl hkr)))
  rw [eN] at hkl LA ⊢
  generalize M.length = NM at hu
  subst hu
  clear hM hk eN hlen hkr hnil
  go_enter Try.func19, Try.ntmps19
  go_wp2_with fail
  refine HO.mono ?_; rintro e w1 ⟨⟨b1, rfl, hb1⟩, hw⟩
  obtain rfl := hw
  have HB := hide hb1
  clear HO hb1
  cases b1 with
  | false =>
    go_wp2
    go_ret2
    exact ⟨_, _, rfl, .inl ⟨fun h => by simpa using HB.out.2 h, rfl, rfl⟩, Kp.refl _ _⟩
  | true =>
    have hn := HB.out.1 rfl
    have HN := hide hn
    clear hn HB
    go_wp2_with fail
    refine LA.mono ?_; rintro e w2 ⟨v, c, rfl, hP, hk2⟩
    rcases hP with ⟨h1, rfl, rfl⟩ | ⟨h1, rfl, l, h2, h3, h4⟩
    · have H := hide (And.intro h1 hk2)
      clear h1 hk2 LA
      go_wp2
      go_ret2
      exact ⟨_, _, rfl, .inr (.inl ⟨HN.out, H.out.1, rfl, rfl⟩), H.out.2⟩
    · obtain ⟨n', hn'⟩ : ∃ n' : Nat, n = (n' : Int) := ⟨n.toNat, by have := HN.out; omega⟩
      subst hn'
      have tab := (lok_good h1.1.1 h1.1.2.1 HU.out.1.sgb).tab
      have hl8 : l.length ≤ 8192 := by
        have := congrArg List.length h2
        simp only [List.length_map] at this
        have := h1.1.2.2
        omega
      have CO := loadsOf43 w2 _ n' v l h4 (by have := HN.out; omega) (fun s hs => by
          have hm : s.sg ∈ lays [] M := by rw [← h2]; exact List.mem_map.2 ⟨s, hs, rfl⟩
          exact ⟨(tab.hs _ hm).1, h1.2.1 _ hm⟩) hl8 (fun s hs => by
          have hm : s.n ∈ dl (lays [] M) ks := by rw [← h3]; exact List.mem_map.2 ⟨s, hs, rfl⟩
          have := dl_le _ _ _ hm
          have := HU.out.2.2.1
          omega)
      obtain ⟨va, vc, rfl⟩ := own_slice h4
      have e5 : (List.range n').map (fun q => Value.int .i64 (sl l q)) = Pn.ics (Pn.lds n' (ks.map (ow (lays [] M)))) := by
        unfold Pn.ics Pn.lds
        rw [List.map_map]
        refine List.map_congr_left (fun q _ => ?_)
        show Value.int .i64 (sl l q) = Value.int .i64 _
        rw [← sm_dl tab.cov h1.2.2 HU.out.2.2.2 q]
        unfold sl
        rw [h2, h3]
      rw [e5] at CO
      obtain ⟨LN, eLN⟩ : ∃ LN, l.length = LN := ⟨_, rfl⟩
      rw [eLN] at CO ⊢
      have H := hide (And.intro h1 hk2)
      clear h1 h2 h3 h4 hk2 LA tab hl8 e5 eLN
      go_wp2_with fail
      refine CO.mono ?_; rintro e w3 ⟨g, rfl, ho3, hk3⟩
      have H3 := hide (And.intro (own_base ho3 H.out.2.size) (H.out.2.andNu hk3))
      clear CO ho3 hk3
      go_wp2
      go_ret2
      exact ⟨_, _, rfl, .inr (.inr ⟨HN.out, H.out.1, rfl, n', rfl, H3.out.1⟩), H3.out.2⟩
end Go.Proofs.Ytbifmcadllilhaa.Rg
