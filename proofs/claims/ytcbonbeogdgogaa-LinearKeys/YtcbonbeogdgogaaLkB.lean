import Derived.Test.YtcbonbeogdgogaaLkA
import Derived.Test.YtcbonbeogdgogaaLrJ
import Derived.StillTailTactics
namespace Go.Proofs.Ytcbonbeogdgogaa.Li
open Go.RowKit
set_option linter.unusedVariables false
/-- a bit of a set kept as an int -/
theorem bit_i64 {st k : Nat} (hs : st < 65536) (hk : k < 32) : bits .and .i64 ((st : Int) / 2 ^ k) 1 = (if st.testBit k = true then 1 else 0) := by
  have e : ((st : Int) / 2 ^ k) = ((st / 2 ^ k : Nat) : Int) := by simp
  have hd : st / 2 ^ k ≤ st := Nat.div_le_self _ _
  rw [e]
  show IntKind.i64.wrap ((BitVec.ofInt 64 ((st / 2 ^ k : Nat) : Int) &&& BitVec.ofInt 64 (1 : Int)).toNat : Int) = _
  have e1 : (BitVec.ofInt 64 (1 : Int)).toNat = 1 := by decide
  rw [BitVec.toNat_and, BitVec.ofInt_natCast, BitVec.toNat_ofNat, e1, Nat.mod_eq_of_lt (by omega), Nat.and_one_is_mod, IntKind.wrap_i64, Nat.testBit_eq_decide_div_mod_eq]
  rcases Nat.mod_two_eq_zero_or_one (st / 2 ^ k) with h | h <;> simp [h]
theorem cvs_eq (L : List Ca) : cvs L = none :: L.map (fun c => some c.V) := by
  simp only [cvs, cqs, List.map_cons, List.map_map]
  congr 1
theorem cvs_succ {L : List Ca} {k : Nat} {c : Ca} (h : L[k]? = some c) : (cvs L)[k + 1]? = some (some c.V) := by
  rw [cvs_eq]
  simp [h]
theorem cvs_len (L : List Ca) : (cvs L).length = L.length + 1 := by rw [cvs_eq]; simp
theorem info60r : (Try.prog.info? 60).map (·.size) = some 2 := info60
/-- the document's cell of a state -/
def CeR (w0 : World) (L : List Ca) (s : Nat) (e : Ending) : Prop :=
  ∃ h a n c X, e = .returned (.agg #[.bool h, .slice a n c]) ∧ (cvs L)[s]? = some (opt h X) ∧ (h = true → By w0 (.slice a n c) X)
set_option maxRecDepth 100000 in
set_option maxHeartbeats 1000000 in
theorem cell99 (w0 w : World) (k0 : Kp Nu w0 w) (b : Nat) (u cv : Value) (L : List Ca) (hL : Cls w0 u L) (hb : w.heap[b]? = some (.cells #[u, cv] 115 (0, 0))) (s : Nat) (hs : s ≤ L.length) (hN : L.length ≤ 16) :
    Calls Try.prog 99 #[.pointer (some ⟨b, 0, none⟩), .int .i64 (s : Int)] w fun e w' => CeR w0 L s e ∧ Kp Nu w w' := by
  have kA : Kp Nu w (w.alloc (.cells #[.bool false, .slice none 0 0] 60)) := Kp.alloc _ _ _
  have bA := heap_new w (.cells #[.bool false, .slice none 0 0] 60)
  obtain ⟨wA, eA⟩ : ∃ wA, w.alloc (.cells #[.bool false, .slice none 0 0] 60) = wA := ⟨_, rfl⟩
  rw [eA] at kA bA
  have y0 := cellAt bA 0 (v := .bool false) rfl
  have y1 := cellAt bA 1 (v := .slice none 0 0) rfl
  have f0 := free3 bA 0
  have f1 := free3 bA 1
  have hbA := box_k hb kA
  have t0 := cellAt hbA 0 (v := u) rfl
  obtain ⟨ua, uc, rfl⟩ := hL.slice
  have HA := hide (And.intro kA bA)
  by_cases h0 : s = 0
  · subst h0
    clear kA bA hb hbA
    go_enter Try.func99, Try.ntmps99
    go_wp2
    try rw [eA]
    refine bodyPost_ret (results_cell_row rfl _ _ w.heap.size 60 _ _ _ rfl (set3 (set3 HA.out.2 0 _) 1 _) Try.underlying60 rfl info60) rfl ?_
    exact ⟨⟨false, none, 0, 0, [], rfl, by rw [cvs_eq]; rfl, (fun h => by cases h)⟩, (HA.out.1.andSet _ _ (.inl (Nat.le_refl _))).andSet _ _ (.inl (Nat.le_refl _))⟩
  · obtain ⟨k, rfl⟩ : ∃ k, s = k + 1 := ⟨s - 1, by omega⟩
    obtain ⟨c, hc⟩ : ∃ c, L[k]? = some c := ⟨_, List.getElem?_eq_getElem (by omega)⟩
    obtain ⟨bL, off, cap, eu, hR, ok⟩ := cls_at (hL.nu (k0.andNu kA)) hc
    simp only [Value.slice.injEq, true_and] at eu
    obtain ⟨rfl, rfl⟩ := eu
    obtain ⟨_, _, _, _, _, r5, _⟩ := range_cells hR
    obtain ⟨_, _, _, _, _, ok0⟩ := cls_at hL hc
    have hk0 : (0 : Int) ≤ (k : Int) := by omega
    have hkI : (k : Int) < (L.length : Int) := by omega
    have hl16 : (L.length : Int) ≤ 16 := by omega
    have etk : (k : Int).toNat = k := by omega
    have x0 : (((k + 1 : Nat) : Int) == 0) = false := by simp; omega
    have x1 : ((k : Int) + 1 == 0) = false := by simp; omega
    have HC := hide (And.intro hc ok0)
    clear kA bA hb hbA hR ok hc ok0 hL h0
    go_enter Try.func99, Try.ntmps99
    go_wp2
    try rw [eA]
    refine bodyPost_ret (results_cell_row rfl _ _ w.heap.size 60 _ _ _ rfl (set3 (set3 HA.out.2 0 _) 1 _) Try.underlying60 rfl info60) rfl ?_
    exact ⟨⟨true, c.va, c.V.length, c.vc, c.V, rfl, by rw [cvs_succ HC.out.1]; rfl, fun _ => HC.out.2.v⟩, (HA.out.1.andSet _ _ (.inl (Nat.le_refl _))).andSet _ _ (.inl (Nat.le_refl _))⟩
/-- the document's state of a cell -/
def S100R (L : List Ca) (q : Option (List Int)) (e : Ending) : Prop := ∃ m : Nat, e = .returned (.int .i64 (m : Int)) ∧ m ≤ L.length ∧ ∀ a, pl (cvs L) q = some a → m = a
set_option maxRecDepth 100000 in
set_option maxHeartbeats 2000000 in
theorem state100 (w : World) (u : Value) (L : List Ca) (hL : Cls w u L) (hN : L.length ≤ 16) (h : Bool) (a : Option Addr) (n c : Nat) (X : List Int) (hX : h = true → By w (.slice a n c) X) :
    Calls Try.prog 100 #[u, .agg #[.bool h, .slice a n c]] w fun e w' => S100R L (opt h X) e ∧ Kp Nu w w' := by
  have mixed : Try.prog.follows .mixedOrders = true := by kernel_rfl
  have kA : Kp Nu w (w.alloc (.cells #[.bool h, .slice a n c] 60)) := Kp.alloc _ _ _
  have bA := heap_new w (.cells #[.bool h, .slice a n c] 60)
  obtain ⟨wA, eA⟩ : ∃ wA, w.alloc (.cells #[.bool h, .slice a n c] 60) = wA := ⟨_, rfl⟩
  rw [eA] at kA bA
  have y0 := cellAt bA 0 (v := .bool h) rfl
  obtain ⟨ua, uc, rfl⟩ := hL.slice
  obtain ⟨N, eN⟩ : ∃ N, L.length = N := ⟨_, rfl⟩
  have HA := hide (And.intro kA (And.intro bA (And.intro hL (And.intro hX eN))))
  rw [eN] at hN ⊢
  have hNI : (N : Int) ≤ 16 := by omega
  clear kA bA hL hX eN
  cases h with
  | false =>
    go_enter Try.func100, Try.ntmps100
    go_wp2
    go_ret
    exact ⟨⟨0, rfl, Nat.zero_le _, fun a ha => by rw [cvs_eq] at ha; simp [pl, opt] at ha; exact ha⟩, HA.out.1⟩
  | true =>
  go_enter Try.func100, Try.ntmps100
  go_wp2
  try rw [eA]
  go_loopw [5] (fun iv wr => ∃ i : Nat, iv = .int .i64 (i : Int) ∧ i ≤ N ∧ Hid (Kp Nu wA wr ∧ ∀ (j : Nat) d, j < i → L[j]? = some d → d.V ≠ X)) (fun iv _ => N - (intOf iv).toNat)
  case atStart => exact ⟨0, rfl, Nat.zero_le _, hide ⟨Kp.refl _ _, fun j d hj => by omega⟩⟩
  case round =>
    obtain ⟨i, rfl, hi, hI⟩ := hrel
    have hi0 : (0 : Int) ≤ (i : Int) := by omega
    by_cases hlt : i < N
    · have hltI : (i : Int) < (N : Int) := by omega
      have kk := HA.out.1.andNu hI.out.1
      obtain ⟨d, hd⟩ : ∃ d, L[i]? = some d := ⟨_, List.getElem?_eq_getElem (by rw [HA.out.2.2.2.2]; exact hlt)⟩
      obtain ⟨bL, off, rfl, hR, ok⟩ := call_at (N := N) (HA.out.2.2.1.nu kk |> fun q => by rw [HA.out.2.2.2.2] at q; exact q) HA.out.2.2.2.2 hd
      obtain ⟨_, _, _, _, _, r5, _⟩ := range_cells hR
      have x1 := cellAt (box_k HA.out.2.1 hI.out.1) 1 (v := .slice a n c) rfl
      have rX := ((HA.out.2.2.2.1 trivial).nu kk).nu (kp_drawn wr)
      have rV := ok.v.nu (kp_drawn wr)
      have SM := same52 wr.drew _ _ d.V X rV.rd rX.rd rV.fit rX.fit
      have eti : (i : Int).toNat = i := by omega
      have HD := hide (And.intro hd (hI.out.1.andNu (kp_drawn wr)))
      clear hR ok hd rX rV kk
      go_wp2
      go_still_tail 8, mixed
      go_wp2_with fail
      refine SM.mono ?_; rintro e w2 ⟨rfl, hk2⟩
      have HK2 := hide (HD.out.2.andNu hk2)
      clear SM hk2
      by_cases hq : d.V = X
      · have hdd : decide (d.V = X) = true := decide_eq_true hq
        have HQ := hide hq
        rw [hdd]
        clear hq hdd
        go_wp2
        go_ret
        refine ⟨⟨i + 1, by simp, by have := HA.out.2.2.2.2; omega, fun a ha => ?_⟩, HA.out.1.andNu HK2.out⟩
        have e1 : pl (cvs L) (some X) = some (i + 1) := pl_at (by rw [cvs_succ HD.out.1, HQ.out]) (fun k hk => by
          cases k with
          | zero => rw [cvs_eq]; simp
          | succ k =>
            obtain ⟨d2, hd2⟩ : ∃ d2, L[k]? = some d2 := ⟨_, List.getElem?_eq_getElem (by rw [HA.out.2.2.2.2]; omega)⟩
            rw [cvs_succ hd2]
            simp only [ne_eq, Option.some.injEq]
            exact hI.out.2 k d2 (by omega) hd2)
        have e2 : pl (cvs L) (opt true X) = some (i + 1) := e1
        rw [e2] at ha
        exact (Option.some.inj ha)
      · have hdd : decide (d.V = X) = false := decide_eq_false hq
        have HQ := hide hq
        rw [hdd]
        clear hq hdd
        go_wp2
        refine ⟨⟨i + 1, by go_num, by omega, hide ⟨HK2.out, fun j d2 hj hd2 => ?_⟩⟩, by simp [intOf]; omega⟩
        by_cases e : j = i
        · subst e
          rw [HD.out.1] at hd2
          cases hd2
          exact HQ.out
        · exact hI.out.2 j d2 (by omega) hd2
    · have hge : ¬ (i : Int) < (N : Int) := by omega
      go_wp2
      go_ret
      refine ⟨⟨0, rfl, Nat.zero_le _, fun a ha => ?_⟩, HA.out.1.andNu hI.out.1⟩
      exfalso
      have e1 : (cvs L)[a]? = some (some X) := pl_get ha
      cases a with
      | zero => rw [cvs_eq] at e1; simp at e1
      | succ k =>
        have hk : k < L.length := by
          have := (List.getElem?_eq_some_iff.1 e1).1
          rw [cvs_len] at this
          omega
        obtain ⟨d2, hd2⟩ : ∃ d2, L[k]? = some d2 := ⟨_, List.getElem?_eq_getElem hk⟩
        rw [cvs_succ hd2] at e1
        simp only [Option.some.injEq] at e1
        exact hI.out.2 k d2 (by have := HA.out.2.2.2.2; omega) hd2 e1
set_option maxRecDepth 100000 in
set_option maxHeartbeats 2000000 in
theorem complete81 (w0 w : World) (k0 : Kp Nu w0 w) (b : Nat) (u cv : Value) (L : List Ca) (hL : Cls w0 u L) (hb : w.heap[b]? = some (.cells #[u, cv] 115 (0, 0))) (st : Nat) (hs : st < 65536) (hN : L.length ≤ 16) :
    Calls Try.prog 81 #[.pointer (some ⟨b, 0, none⟩), .int .i64 (st : Int)] w fun e w' => Ans (subs (schOf L).must st) e ∧ Kp Nu w w' := by
  obtain ⟨ua, uc, rfl⟩ := hL.slice
  obtain ⟨N, eN⟩ : ∃ N, L.length = N := ⟨_, rfl⟩
  have HA := hide (And.intro k0 (And.intro hL (And.intro hb (And.intro eN hs))))
  have hNI : (N : Int) ≤ 16 := by omega
  have hs0 : (0 : Int) ≤ (st : Int) := by omega
  have hsI : (st : Int) < 65536 := by omega
  clear k0 hL hb eN hs hN
  have t0 := cellAt HA.out.2.2.1 0 (v := .slice ua L.length uc) rfl
  rw [HA.out.2.2.2.1] at t0
  go_enter Try.func81, Try.ntmps81
  go_wp2
  clear t0
  go_loopw [5] (fun iv wr => ∃ i : Nat, iv = .int .i64 (i : Int) ∧ i ≤ N ∧ Hid (Kp Nu w wr ∧ ∀ (j : Nat) d, j < i → L[j]? = some d → ¬ d.en = -1 → st.testBit j = true)) (fun iv _ => N - (intOf iv).toNat)
  case atStart => exact ⟨0, rfl, Nat.zero_le _, hide ⟨Kp.refl _ _, fun j d hj => by omega⟩⟩
  case round =>
    obtain ⟨i, rfl, hi, hI⟩ := hrel
    have hi0 : (0 : Int) ≤ (i : Int) := by omega
    have t0 := cellAt (box_k HA.out.2.2.1 hI.out.1) 0 (v := .slice ua L.length uc) rfl
    rw [HA.out.2.2.2.1] at t0
    by_cases hlt : i < N
    · have hltI : (i : Int) < (N : Int) := by omega
      have hi32 : (i : Int) ≤ 32 := by omega
      obtain ⟨d, hd⟩ : ∃ d, L[i]? = some d := ⟨_, List.getElem?_eq_getElem (by rw [HA.out.2.2.2.1]; exact hlt)⟩
      obtain ⟨bL, off, rfl, hR, ok⟩ := call_at (N := N) (HA.out.2.1.nu (HA.out.1.andNu hI.out.1) |> fun q => by rw [HA.out.2.2.2.1] at q; exact q) HA.out.2.2.2.1 hd
      obtain ⟨r0, r1, r2, r3, r4, r5, r6, r7, r8, r9, r10, r11, r12⟩ := range_cells hR
      have KN := known50 wr d.who d.seq d.k d.key d.hi d.lim d.st d.beg d.en d.has d.va d.oa d.ya d.V.length d.vc d.O.length d.oc d.Y.length d.yc
      have eti : (i : Int).toNat = i := by omega
      have HD := hide hd
      clear hR ok hd
      go_wp2_with fail
      refine KN.mono ?_; rintro e w2 ⟨rfl, hk2⟩
      have HK2 := hide (hI.out.1.andNu hk2)
      have tb := bit_i64 (st := st) (k := i) HA.out.2.2.2.2 (by omega)
      clear KN hk2 r0 r1 r2 r3 r4 r5 r6 r7 r8 r9 r10 r11 r12
      by_cases hen : d.en = -1
      · have hn : (d.en != -1) = false := by simpa using hen
        have HE := hide hen
        rw [hn]
        clear hen hn
        go_wp2
        refine ⟨⟨i + 1, by go_num, by omega, hide ⟨HK2.out, fun j d2 hj hd2 h2 => ?_⟩⟩, by simp [intOf]; omega⟩
        by_cases e : j = i
        · subst e
          rw [HD.out] at hd2
          cases hd2
          exact absurd HE.out h2
        · exact hI.out.2 j d2 (by omega) hd2 h2
      · have hn : (d.en != -1) = true := by simpa using hen
        have HE := hide hen
        rw [hn]
        clear hen hn
        by_cases hbit : st.testBit i = true
        · rw [if_pos hbit] at tb
          have HB := hide hbit
          clear hbit
          go_wp2
          refine ⟨⟨i + 1, by go_num, by omega, hide ⟨HK2.out, fun j d2 hj hd2 h2 => ?_⟩⟩, by simp [intOf]; omega⟩
          by_cases e : j = i
          · subst e
            exact HB.out
          · exact hI.out.2 j d2 (by omega) hd2 h2
        · rw [if_neg hbit] at tb
          have HB := hide hbit
          clear hbit
          go_wp2
          go_ret
          refine ⟨⟨false, rfl, ?_⟩, HK2.out⟩
          simp
          intro q
          refine HB.out (q i ?_)
          have hil : i < L.length := by have := HA.out.2.2.2.1; omega
          exact (bset_bit _ _ _).2 ⟨hil, (kns_iff HD.out).2 HE.out⟩
    · have hge : ¬ (i : Int) < (N : Int) := by omega
      go_wp2
      go_ret
      refine ⟨⟨true, rfl, ?_⟩, hI.out.1⟩
      simp
      intro k hk
      obtain ⟨hkl, hkn⟩ := (bset_bit _ _ _).1 hk
      obtain ⟨d, hd⟩ : ∃ d, L[k]? = some d := ⟨_, List.getElem?_eq_getElem hkl⟩
      exact hI.out.2 k d (by have := HA.out.2.2.2.1; omega) hd ((kns_iff hd).1 hkn)
end Go.Proofs.Ytcbonbeogdgogaa.Li
