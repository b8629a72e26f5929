import Derived.Test.YtgaehpdlljlliaaCrI
namespace Go.Proofs.Ytgaehpdlljlliaa.Cd
open Go.RowKit
set_option linter.unusedVariables false

theorem wb_byt {W : World} (S : List Stp) (h : ∀ s ∈ S, Fit W s) : Byt (wb S) := by
  induction S with
  | nil => intro z hz; simp [wb] at hz
  | cons s r ih =>
    rw [wb]
    refine Byt.append ?_ (ih (fun x hx => h x (by simp [hx])))
    split
    · exact tb_byt _ (th_fit s (h s (by simp)))
    · intro z hz; simp at hz

theorem Scr.fits {w : World} {v : Value} {S : List Stp} (h : Scr w v S) : ∀ s ∈ S, Fit w s := by
  rcases h with ⟨_, rfl⟩ | ⟨b, off, cap, _, hc⟩
  · intro s hs; simp at hs
  · intro s hs
    obtain ⟨i, hi⟩ := List.getElem?_of_mem hs
    exact (hc i s hi).fit

/-- what one round of the reader is given and leaves -/
theorem round_take {W w : World} {rb g : Nat} {v : Value} {r : List Int} (s : Stp) (f0 : Fit W s) (kW : Kp Nu W w) (hT : isT s.kind = true) (hR : Rr w rb g 0 v ((if isT s.kind then tb (th s) else []) ++ r)) (hB : Byt ((if isT s.kind then tb (th s) else []) ++ r)) (n : Int) (hn : n = ((th s).bs.length : Int)) :
    Took rb g (th s).kind n w ⟨(th s).N, (th s).I, (th s).F, (th s).bs, 0, r⟩ := by
  subst hn
  have ft := th_fit s (f0.kp kW)
  rw [hT, if_pos rfl] at hR hB
  have T := take_any hR hB (th s).kind ((th s).bs.length : Int) (by have := ft.len; omega)
  rw [tk_tb (th s) ft (th_norm s (f0.kp kW)) hT r] at T
  exact T

theorem src_lt {W : World} {u : Value} {ys : List Int} (h : Rd W u ys) (hne : ys ≠ []) {g : Nat} (hg : at? u = some g) : g < W.heap.size := by
  rcases h with ⟨_, e⟩ | ⟨a, cap, e, hc⟩
  · exact absurd e hne
  · rw [e] at hg
    simp only [at?, Option.some.injEq] at hg
    have h0 : 0 < ys.length := by
      rcases Nat.eq_zero_or_pos ys.length with h0 | h0
      · exact absurd (List.eq_nil_of_length_eq_zero h0) hne
      · exact h0
    have := World.block_lt_of_cell? W _ (hc 0 (.int .u8 ys[0]) (by simp [cs]))
    rw [add_block] at this
    omega

theorem decide_self (bs : List Int) : decide (bs = bs) = true := by simp

theorem fin_round {K : Int} {N : Nat} {P : Nat → Prop} (h0 : 0 ≤ K) (h1 : K < 16777216) (hN : K.toNat < N) (hP : P (K.toNat + 1)) :
    (∃ K' : Int, 0 ≤ K' ∧ K' ≤ 16777216 ∧ Value.int .i64 (K + 1) = .int .i64 K' ∧ Hid (K'.toNat ≤ N) ∧ P K'.toNat) ∧ N - (intOf (.int .i64 (K + 1))).toNat < N - (intOf (.int .i64 K)).toNat := by
  have e : (K + 1).toNat = K.toNat + 1 := by omega
  refine ⟨⟨K + 1, by omega, by omega, rfl, ?_, by rw [e]; exact hP⟩, ?_⟩
  · show _ ≤ _
    omega
  · show N - (K + 1).toNat < N - K.toNat
    omega

set_option maxRecDepth 100000 in
set_option maxHeartbeats 4000000 in
theorem round_walk {w : World} {v : Value} {S : List Stp} (h : Scr w v S) : Calls Try.prog 7 #[v] w fun e w' => e = .returned (.bool true) ∧ Kp Nu w w' := by
  have RM := room_any h
  have WT := fun hr => written_any h hr
  have hfits := h.fits
  have hbyt := fun k => wb_byt (W := w) (S.drop k) (fun s hs => hfits s (List.mem_of_mem_drop hs))
  have hby0 := wb_byt (W := w) S hfits
  obtain ⟨ad, cap, hv⟩ := h.slice
  subst hv
  have HS := hide h
  clear h
  obtain ⟨N, hN⟩ : ∃ N, S.length = N := ⟨_, rfl⟩
  have HN := hide hN
  rw [hN] at HS RM WT ⊢
  clear hN
  have HBY := hide hbyt
  clear hbyt hfits
  go_enter Try.func7, Try.ntmps7
  go_wp2_with fail
  refine RM.mono ?_; rintro e w0 ⟨r, rfl, hrr, rfl⟩
  by_cases hbig : r > 16777216
  · clear hrr
    go_wp2
    go_ret
    exact ⟨rfl, Kp.refl _ _⟩
  have hrm : rm S ≤ 16777216 := by
    rcases hrr.out with h | h
    · omega
    · omega
  have hlen := len_rm S
  have WT' := WT hrm
  have hwbl := wb_room S
  have NR := fun (w1 : World) (G : Nat) (hh : w1.heap[G]? = some (.cells (cs (wb S)).toArray 5 (0, 0))) => newReader_ok (rd_new hh) (by omega)
  have HM : Hid (N ≤ 16777216) := by
    have := HN.out
    show _ ≤ _
    omega
  clear WT hrm hlen hrr hwbl RM
  have nm := fun w => num_any 0 w
  go_wp2_with fail
  refine WT'.mono ?_; rintro e w1 ⟨G, rfl, hG, hh, hk1⟩
  clear WT'
  have NR' := NR w1 G hh
  clear NR
  generalize (wb S).length = wl at NR' ⊢
  go_wp2_with fail
  refine NR'.mono ?_; rintro e w2 ⟨rb, rfl, hrb, hrr, hk2⟩
  have hk12 := hk1.trans hk2 (fun _ _ h => h)
  have hrb2 : w0.heap.size ≤ rb := Nat.le_trans hk1.size hrb
  have hg2 : w0.heap.size ≤ w1.heap.size := hk1.size
  generalize w1.heap.size = g at hrr hg2
  clear NR' hh hG hk1 hk2 hrb
  go_wp2_with fail
  refine (nm _).mono ?_; rintro e w3 ⟨rfl, rfl⟩
  go_wp2
  go_loopw [7] (fun i wr => ∃ K : Int, 0 ≤ K ∧ K ≤ 16777216 ∧ i = .int .i64 K ∧ Hid (K.toNat ≤ N) ∧ (∃ u : Value, Rr wr rb g 0 u (wb (S.drop K.toNat))) ∧ Kp Nu w0 wr) (fun i _ => N - (intOf i).toNat)
  case atStart => exact ⟨0, by omega, by omega, rfl, Nat.zero_le _, by simpa using hrr, hk12⟩
  case round =>
    obtain ⟨K, hK0, hK1, rfl, HK, ⟨u, hR⟩, hkp⟩ := hrel
    clear hrr hk12
    by_cases hlt : K.toNat < N
    · rcases HS.out with ⟨e, e2⟩ | ⟨b, off, cap', e, hc⟩
      · have := HN.out
        subst e2
        simp at this
        omega
      simp only [Value.slice.injEq] at e
      obtain ⟨e1, e2, e3⟩ := e
      clear e2
      subst e1 e3
      have hkS : K.toNat < S.length := by rw [HN.out]; exact hlt
      have HLT := hide hlt
      have hat := Scr.at hc hkp hkS
      have hfit := (hc K.toNat S[K.toNat] (List.getElem?_eq_getElem hkS)).fit
      have hwd := wb_drop hkS
      have hbk := HBY.out K.toNat
      rw [hwd] at hR hbk
      obtain ⟨c0, c1, c2, c3, c4, hf⟩ := hat
      have TH := thing_at S[K.toNat] _ hf
      have hltI : K < (N : Int) := by omega
      have hKN : K < 16777216 := by have := HM.out; omega
      obtain ⟨ad', cp', hbv⟩ := hf.rd.slice
      rw [hbv] at c4 TH
      generalize hrest : wb (S.drop (K.toNat + 1)) = rest at *
      have HRest := hide hrest
      generalize S[K.toNat] = s at *
      clear hwd hc hf hkS hrest
      by_cases hT : isT s.kind = true
      · have RT := fun (w' : World) (k' : Kp Nu wr w') n hn => round_take s hfit (hkp.trans k' (fun _ _ h => h)) hT (hR.keeps k' (fun h => h) (fun h => h)) hbk n hn
        have ftw := fun (w' : World) (k' : Kp Nu wr w') => (th_fit s hfit).kp (hkp.trans k' (fun _ _ h => h))
        have hT2 : isT (th s).kind = true := hT
        have hsrc := fun (hne : (th s).bs ≠ []) g' (hg' : at? (th s).bv = some g') => src_lt (th_fit s hfit).rd hne hg'
        have HSRC := hide hsrc
        clear hsrc
        have IT := fun w => isThing_any (th s).kind w
        rw [hT2] at IT
        have hkk := (isT_iff (th s).kind).1 hT2
        have hrlt := hR.lt
        generalize s.bs.length = L at *
        clear hT hT2 hbk hR hbv
        have TH' : Calls Try.prog 13 _ wr fun e w' => e = .returned (.agg #[.int .i64 (th s).kind, .int .u64 (th s).N, .int .i64 (th s).I, .bool (th s).F, (th s).bv]) ∧ Kp Nu wr w' := TH
        clear TH
        go_wp2_with fail
        refine TH'.mono ?_; rintro e w3 ⟨rfl, hk3⟩
        have ft3 := ftw w3 hk3
        obtain ⟨ad2, cap2, hbv2⟩ := ft3.rd.slice
        have RT4 := fun o => RT (w3.alloc o) (hk3.andAlloc o)
        have hk3w := hkp.trans hk3 (fun _ _ h => h)
        have hrlt3 : rb < w3.heap.size := Nat.lt_of_lt_of_le hrlt hk3.size
        clear RT ftw TH' hfit hkp hk3 hrlt c0 c1 c2 c3 c4
        generalize th s = t at *
        obtain ⟨kind, tN, tI, tF, bv, bs⟩ := t
        simp only at hbv2 hkk IT RT4 ⊢
        subst hbv2
        have hLb := ft3.len
        have hrd3 := ft3.rd
        simp only at hLb hrd3
        clear ft3
        generalize hbl : bs.length = LL at *
        have HBL := hide hbl
        have HLB := hide hLb
        clear hbl hLb
        go_wp2_with fail
        refine (IT _).mono ?_; rintro e w4 ⟨rfl, rfl⟩
        go_wp2_with fail
        refine Calls.mono (RT4 _ _ rfl) ?_; rintro e w5 ⟨u5, rfl, hu5, hfr5, hr5, hk5⟩
        have hbox : w5.heap[w3.heap.size]? = some (.cells #[.int .i64 kind, .int .u64 tN, .int .i64 tI, .bool tF, .slice ad2 LL cap2] 40 (0, 0)) := by
          refine (hk5.block w3.heap.size (by simp) (fun e => ?_)).trans (heap_alloc_new w3 _)
          have : w3.heap.size = rb := e
          omega
        have hkw5 : Kp Nu w0 w5 := (hk3w.andAlloc _).trans hk5 (fun i hi e => by have : i = rb := e; omega)
        have hrd5 : Rd w5 (.slice ad2 LL cap2) bs := by
          refine (hrd3.keeps (Kp.alloc w3 _ Nu) (fun _ _ h => h)).keeps' hk5 (fun hne g' hg' e => ?_)
          have hlt := HSRC.out hne g' hg'
          have : g' = rb := e
          omega
        have hlt35 : w3.heap.size < w5.heap.size := block_lt hbox
        have hne35 : ¬ w3.heap.size = w5.heap.size := by omega
        clear hlt
        obtain ⟨b0, b1, b2, b3, b4⟩ := cell5 hbox
        obtain ⟨ad5, cap5, hu5'⟩ := hu5.slice
        rw [HBL.out] at hu5'
        subst hu5'
        obtain ⟨u6, hr5⟩ := hr5
        simp only at hr5
        clear hk5 hk3w hrd3 IT RT4 hbox hfr5 hrlt3
        have hNN : (tN != tN) = false := by simp
        have hII : (tI != tI) = false := by simp
        have hFF : (tF != tF) = false := by simp
        have SM := fun o => same_any (hu5.keeps (Kp.alloc w5 o Nu) (fun _ _ h => h)) (hrd5.keeps (Kp.alloc w5 o Nu) (fun _ _ h => h)) (by rw [HBL.out]; have := HLB.out; omega)
        rw [decide_self] at SM
        have RE : ∀ w' (k' : Kp Nu w5 w'), Calls Try.prog 23 #[.pointer (some ⟨rb, 0, none⟩)] w' fun e w'' => e = .returned (.int .i64 0) ∧ w'' = w' := fun w' k' => rerr_any (hr5.keeps k' (fun h => h) (fun h => h))
        have FN : ∀ w' (k' : Kp Nu w5 w'), (∃ u : Value, Rr w' rb g 0 u (wb (S.drop (K.toNat + 1)))) ∧ Kp Nu w0 w' := fun w' k' => ⟨⟨u6, by rw [HRest.out]; exact hr5.keeps k' (fun h => h) (fun h => h)⟩, hkw5.trans k' (fun _ _ h => h)⟩
        clear hr5 hkw5 hrd5 hu5 HLB
        by_cases h8 : 8 ≤ kind
        · have h6 : (kind == 6) = false := by simp; omega
          have h7 : (kind == 7) = false := by simp; omega
          have h5 : ¬ kind ≤ 5 := by omega
          go_wp2_with fail
          refine (SM _).mono ?_; rintro e w7 ⟨rfl, hk7⟩
          have hk57 := (Kp.alloc w5 _ Nu).trans hk7 (fun _ _ h => h)
          go_wp2_with fail
          refine (RE _ hk57).mono ?_; rintro e w8 ⟨rfl, rfl⟩
          go_wp2_with fail
          refine (nm _).mono ?_; rintro e w9 ⟨rfl, rfl⟩
          go_wp2
          exact fin_round (P := fun n => (∃ u : Value, Rr _ rb g 0 u (wb (S.drop n))) ∧ Kp Nu w0 _) hK0 hKN HLT.out (FN _ hk57)
        · have h8' : ¬ kind ≥ 8 := by omega
          by_cases h6 : kind = 6
          · subst h6
            go_wp2_with fail
            refine (RE _ (Kp.alloc w5 _ Nu)).mono ?_; rintro e w8 ⟨rfl, rfl⟩
            go_wp2_with fail
            refine (nm _).mono ?_; rintro e w9 ⟨rfl, rfl⟩
            go_wp2
            exact fin_round (P := fun n => (∃ u : Value, Rr _ rb g 0 u (wb (S.drop n))) ∧ Kp Nu w0 _) hK0 hKN HLT.out (FN _ (Kp.alloc w5 _ Nu))
          · by_cases h7 : kind = 7
            · subst h7
              go_wp2_with fail
              refine (RE _ (Kp.alloc w5 _ Nu)).mono ?_; rintro e w8 ⟨rfl, rfl⟩
              go_wp2_with fail
              refine (nm _).mono ?_; rintro e w9 ⟨rfl, rfl⟩
              go_wp2
              exact fin_round (P := fun n => (∃ u : Value, Rr _ rb g 0 u (wb (S.drop n))) ∧ Kp Nu w0 _) hK0 hKN HLT.out (FN _ (Kp.alloc w5 _ Nu))
            · have h5 : kind ≤ 5 := by omega
              have h6' : (kind == 6) = false := by simp; omega
              have h7' : (kind == 7) = false := by simp; omega
              go_wp2_with fail
              refine (RE _ (Kp.alloc w5 _ Nu)).mono ?_; rintro e w8 ⟨rfl, rfl⟩
              go_wp2_with fail
              refine (nm _).mono ?_; rintro e w9 ⟨rfl, rfl⟩
              go_wp2
              exact fin_round (P := fun n => (∃ u : Value, Rr _ rb g 0 u (wb (S.drop n))) ∧ Kp Nu w0 _) hK0 hKN HLT.out (FN _ (Kp.alloc w5 _ Nu))
      · have hT' : isT s.kind = false := by simpa using hT
        have IT := fun w => isThing_any (th s).kind w
        rw [th_kind, hT'] at IT
        rw [hT', if_neg (by simp), List.nil_append] at hR
        have TH' : Calls Try.prog 13 _ wr fun e w' => e = .returned (.agg #[.int .i64 s.kind, .int .u64 (th s).N, .int .i64 (th s).I, .bool (th s).F, (th s).bv]) ∧ Kp Nu wr w' := TH
        have hbvn : (th s).bv = .slice none 0 0 := by
          have : ¬ (s.kind = 8 ∨ s.kind = 9) := by
            intro h
            have : isT s.kind = true := (isT_iff _).2 (by omega)
            rw [hT'] at this
            cases this
          simp only [th, if_neg this]
        rw [hbvn] at TH'
        have FN : ∀ w' (k' : Kp Nu wr w'), (∃ u : Value, Rr w' rb g 0 u (wb (S.drop (K.toNat + 1)))) ∧ Kp Nu w0 w' := fun w' k' => ⟨⟨u, by rw [HRest.out]; exact hR.keeps k' (fun h => h) (fun h => h)⟩, hkp.trans k' (fun _ _ h => h)⟩
        generalize s.bs.length = L at *
        generalize (th s).N = tN at *
        generalize (th s).I = tI at *
        generalize (th s).F = tF at *
        clear hlt TH hbvn hR hkp hbk hfit hbv hT
        go_wp2_with fail
        refine TH'.mono ?_; rintro e w3 ⟨rfl, hk3⟩
        go_wp2_with fail
        refine (IT _).mono ?_; rintro e w4 ⟨rfl, rfl⟩
        go_wp2
        exact fin_round (P := fun n => (∃ u : Value, Rr _ rb g 0 u (wb (S.drop n))) ∧ Kp Nu w0 _) hK0 hKN HLT.out (FN _ (hk3.andAlloc _))
    · have hke : K.toNat = N := by have := HK.out; omega
      rw [List.drop_of_length_le (by rw [HN.out]; omega)] at hR
      have hgeI : ¬ K < (N : Int) := by omega
      clear hlt hke
      have LF := left_any hR
      have DN := done_any hR
      have e0 : ((wb []).length : Int) = 0 := rfl
      rw [e0] at LF
      have e1 : (if (0 : Int) = 0 then (if (wb []).length = 0 then (0 : Int) else 26) else 0) = 0 := rfl
      rw [e1] at DN
      clear hR e0 e1
      go_wp2_with fail
      refine LF.mono ?_; rintro e w4 ⟨rfl, rfl⟩
      go_wp2_with fail
      refine DN.mono ?_; rintro e w5 ⟨rfl, rfl⟩
      go_wp2_with fail
      refine (nm _).mono ?_; rintro e w6 ⟨rfl, rfl⟩
      go_wp2
      go_ret
      exact ⟨rfl, hkp⟩
end Go.Proofs.Ytgaehpdlljlliaa.Cd
