import Derived.Test.YtchealdgncgjoaaMvA
namespace Go.Proofs.Ytchealdgncgjoaa.StU
open Go.RowKit Go.Proofs.Ytchealdgncgjoaa.St Go.Shelf
set_option linter.unusedVariables false
theorem Sh.sm {w : World} {sb mb : Nat} {most : Int} {t : T (Int × Sv)} {M : List KV} (h : Sh w sb mb most t M) : ∀ i c ty m, Sm sb mb i → w.heap[i]? = some (.cells c ty m) → ty = 172 ∨ ty = 208 := fun i c ty m hs hc => by
  obtain ⟨a, hn1, _⟩ := h.m.ex
  rcases hs with rfl | rfl
  · rw [h.box] at hc; cases hc; exact .inl rfl
  · rw [hn1] at hc; cases hc; exact .inr rfl
theorem Cd.keep {V W : World} {B gk N : Nat} {L : List (Int × Sv)} {A : List KV} {S : Nat → Prop} (h : Cd V B gk N L A) (k : Kp S V W) (hS : ∀ i c ty, S i → V.heap[i]? = some (.cells c ty (0, 0)) → ty ≠ 5 ∧ ty ≠ 78) : Cd W B gk N L A :=
  ⟨own_keep h.own (fun g e => by
    obtain ⟨cur, hc⟩ := own_obj h.own e
    exact k.block g (blk_lt hc) (fun hs => (hS _ _ _ hs hc).2 rfl)), h.f.imp (fun p m hf => hf.keep k (fun i c hs hc => (hS _ _ _ hs hc).1 rfl)), h.lo, h.ap⟩
/-- pairs taken out, one behind the other -/
def delAll (L : List KV) (M : List KV) : List KV := L.foldl (fun M m => delM m.1 M) M
theorem delAll_snoc (L : List KV) (m : KV) (M : List KV) : delAll (L ++ [m]) M = delM m.1 (delAll L M) := by simp [delAll]
theorem delAll_filter {M : List KV} (h : Ris M) : ∀ (L : List KV), delAll L M = M.filter (fun m => !L.any (fun q => decide (q.1 = m.1))) ∧ Ris (delAll L M) := by
  intro L
  induction L generalizing M with
  | nil => exact ⟨(List.filter_eq_self.2 (fun a _ => by simp)).symm, h⟩
  | cons a L ih =>
    have h1 := ris_del h a.1
    obtain ⟨e1, e2⟩ := ih h1
    refine ⟨?_, e2⟩
    show delAll L (delM a.1 M) = _
    rw [e1, del_filter h, List.filter_filter]
    refine List.filter_congr (fun m _ => ?_)
    rw [List.any_cons]
    by_cases e : a.1 = m.1
    · simp [e]
    · have : ¬ m.1 = a.1 := fun h => e h.symm
      simp [e, this]
/-- what is left where a range is cut out -/
abbrev cutM (lo hi : Int) (M : List KV) : List KV := M.filter (fun m => !inR lo hi m)
theorem delAll_rg {M : List KV} (h : Ris M) (lo hi : Int) : delAll (rg lo hi M) M = cutM lo hi M := by
  rw [(delAll_filter h _).1]
  refine List.filter_congr (fun m hm => ?_)
  congr 1
  rw [Bool.eq_iff_iff, List.any_eq_true]
  constructor
  · rintro ⟨q, hq, e⟩
    have e : q.1 = m.1 := by simpa using e
    have := (List.mem_filter.1 hq).2
    unfold inR at this ⊢
    rw [← e]; exact this
  · intro hi'
    exact ⟨m, List.mem_filter.2 ⟨hm, hi'⟩, by simp⟩
section
variable {w : World} {sb mb : Nat} {most : Int} {t : T (Int × Sv)} {M : List KV}
set_option maxRecDepth 100000 in
set_option maxHeartbeats 400000 in
theorem cut_no (h : Sh w sb mb most t M) (lo hi : Int) (hlh : hi < lo) : Calls Try.prog 63 #[.pointer (some ⟨sb, 0, none⟩), .int .u64 lo, .int .u64 hi] w fun e w' => e = .returned (.tuple #[.slice none 0 0, .int .i64 74]) ∧ w' = w := by
  have MA := made117 h
  clear h
  go_enter Try.func63, Try.ntmps63
  go_wp2_with (go_at_call 117; refine MA.mono ?_; rintro e w' ⟨rfl, hw⟩; obtain rfl := hw.symm)
  go_ret2
  exact ⟨rfl, rfl⟩
set_option maxRecDepth 100000 in
set_option maxHeartbeats 2000000 in
theorem cut_ok (h : Sh w sb mb most t M) (lo hi : Int) (hlh : lo ≤ hi) : Calls Try.prog 63 #[.pointer (some ⟨sb, 0, none⟩), .int .u64 lo, .int .u64 hi] w fun e w' => ∃ gk L K, e = .returned (.tuple #[.slice (some ⟨gk, 0, none⟩) K K, .int .i64 0]) ∧ K = (rg lo hi M).length ∧ Cd w' w.heap.size gk K L (rg lo hi M) ∧ (∃ t', Sh w' sb mb most t' (cutM lo hi M)) ∧ Kp (Sm sb mb) w w' := by
  have MA := made117 h
  have CA := count_any54 h lo hi
  obtain ⟨R, eR⟩ : ∃ R, rg lo hi M = R := ⟨_, rfl⟩
  obtain ⟨K, eK⟩ : ∃ K, R.length = K := ⟨_, rfl⟩
  have CP : ∀ W, Kp Nu w W → Calls Try.prog 121 #[.pointer (some ⟨sb, 0, none⟩), .int .u64 lo, .int .u64 hi, .int .i64 (K : Int)] W fun e w' => ∃ gk L, e = .returned (.slice (some ⟨gk, 0, none⟩) K K) ∧ Hid (Cd w' w.heap.size gk K L R ∧ Kp Nu w w') := fun W q => by
    refine (copies_any (h.nu q) lo hi K (by rw [eR, eK]; exact Nat.le_refl _)).mono ?_
    rintro e w' ⟨gk, L, e1, e2, e3⟩
    rw [eR, ← eK, List.take_length, eK] at e2
    exact ⟨gk, L, e1, ⟨own_base e2.own q.size, e2.f, fun p hp g hg => Nat.le_trans q.size (e2.lo p hp g hg), e2.ap⟩, q.andNu e3⟩
  rw [eR, eK] at CA
  have hKb : K ≤ 32768 := by
    have h1 : (rg lo hi M).length ≤ M.length := List.length_filter_le _ _
    have := h.small; have := h.sz
    rw [eR, eK] at h1; omega
  have HH := hide (And.intro h (And.intro eR (And.intro eK hKb)))
  rw [eR]
  clear h eR eK hKb
  go_enter Try.func63, Try.ntmps63
  go_wp2_with (first
    | (go_at_call 117; refine MA.mono ?_; rintro e w' ⟨rfl, hw⟩; obtain rfl := hw.symm)
    | (go_at_call 54; refine CA.mono ?_; rintro e w1 ⟨rfl, k1⟩)
    | (go_at_call 121; refine (CP _ k1).mono ?_; rintro e w2 ⟨gk, L, rfl, h2⟩))
  go_loopw [27] (fun it wr => ∃ i : Nat, it = .int .i64 (i : Int) ∧ i ≤ K ∧ Hid (∃ t', Sh wr sb mb most t' (delAll (R.take i) M) ∧ Kp (Sm sb mb) w2 wr)) (fun it _ => K - (intOf it).toNat)
  case atStart => exact ⟨0, rfl, Nat.zero_le _, t, HH.out.1.nu h2.out.2, Kp.refl _ _⟩
  case round =>
    obtain ⟨i, rfl, hiK, HI⟩ := hrel
    obtain ⟨t', hsh, kwr⟩ := HI.out
    have hcd := h2.out.1.keep kwr (fun j c ty hs hc => by rcases (HH.out.1.nu h2.out.2).sm j c ty _ hs hc with rfl | rfl <;> decide)
    by_cases hlt : i < K
    · obtain ⟨m, hm⟩ : ∃ m, R[i]? = some m := ⟨_, List.getElem?_eq_getElem (by rw [HH.out.2.2.1]; exact hlt)⟩
      obtain ⟨p, hp, hfv, d0, d1⟩ := hcd.at_ hm
      have ka := Kp.alloc wr (.cells #[.int .u64 m.1, .slice p.2.a p.2.n p.2.c] 78) Nu
      have DA := del130 (hsh.nu ka) m.1
      have x0 := (cell2 (heap_alloc_new wr (.cells #[.int .u64 m.1, .slice p.2.a p.2.n p.2.c] 78))).1
      have e : delAll (R.take (i + 1)) M = delM m.1 (delAll (R.take i) M) := by
        rw [List.take_add_one, hm]
        exact delAll_snoc _ _ _
      rw [← e] at DA
      have hltI : (i : Int) < (K : Int) := by omega
      have hi00 : (0 : Int) ≤ (i : Int) := by omega
      have hwi : wrap64 ((i : Int) + 1) = ((i + 1 : Nat) : Int) := by have := HH.out.2.2.2; unfold wrap64; omega
      have HW := hide (And.intro hlt (And.intro hwi (kwr.andNu ka)))
      generalize StU.hs m.1 (delAll (R.take i) M) = bb at *
      generalize m.1 = mk at *
      obtain ⟨pk, ⟨pa, pn, pcc⟩⟩ := p
      clear hm hp hfv hcd hsh kwr ka e HI hlt hiK hwi
      go_wp2_with (go_at_call 130; refine DA.mono ?_; rintro e w3 ⟨rfl, h3, k3⟩)
      have HF : Hid (∃ t', Sh w3 sb mb most t' (delAll (R.take (i + 1)) M) ∧ Kp (Sm sb mb) w2 w3) := by
        obtain ⟨t'', e1⟩ := h3
        exact ⟨t'', e1, HW.out.2.2.trans k3 (fun _ _ e => e)⟩
      clear h3 k3 DA
      go_wp2
      exact ⟨⟨i + 1, by rw [HW.out.2.1], HW.out.1, HF⟩, lt_mi HW.out.2.1 HW.out.1⟩
    · obtain rfl : i = K := by omega
      rw [List.take_of_length_le (by rw [HH.out.2.2.1]; exact Nat.le_refl _), ← HH.out.2.1, delAll_rg HH.out.1.ris] at hsh
      have hnl : ¬ (i : Int) < (i : Int) := by omega
      have HZ := hide (And.intro hcd (And.intro hsh ((h2.out.2.mono (fun _ _ e => e.elim)).trans kwr (fun _ _ e => e))))
      clear hcd hsh kwr HI hlt hiK
      go_wp2
      go_ret2
      exact ⟨gk, L, i, rfl, HH.out.2.2.1.symm, HZ.out.1, ⟨t', HZ.out.2.1⟩, HZ.out.2.2⟩
end
end Go.Proofs.Ytchealdgncgjoaa.StU
