import Derived.Test.YtckjededijgjgaaDoorUrE
import Derived.Deep.RegionHeldLaw
import Derived.Test.YtckjededijgjgaaDoorRpL
namespace Go.Proofs.YtckjededijgjgaaDoor.Ur
open Go.RowKit
open Go.Proofs.YtckjededijgjgaaDoor.Pc (P4 pieces)
open Go.Proofs.YtckjededijgjgaaDoor.Uq (rqG)
open Go.Proofs.YtckjededijgjgaaDoor.Wd (Bg bg_step bg_end)
open Go.Proofs.YtckjededijgjgaaDoor.Enc (plainF hidB hidden_any)
open Go.Proofs.YtckjededijgjgaaDoor.Rn (bcs bcs_append conv_row info5 own_below strCells_is)
set_option linter.unusedVariables false

theorem results_tmp4 {fn : Func} {t u v x : Tmp} (h : fn.results = #[.tmp t, .tmp u, .tmp v, .tmp x]) (tmps : Array Value) (P : Program) (w : World) :
    (results fn tmps).run P w = .ok (.tuple #[tmps.getD t undef, tmps.getD u undef, tmps.getD v undef, tmps.getD x undef]) w := by
  simp [results, h]

theorem strCells_own (b : ByteArray) : Lib.strCells b = bcs b.data.toList := by
  have := strCells_is b.data.toList
  rw [ba] at this
  exact this
/-- an append whose run is known, in a region that draws -/
theorem step_append_run {P : Program} {ops : Array Oper} {o : Oper} {a : Act} {w : World} {K : Act → World → Prop} {Q : Exit → Act → World → Prop} {E : Prop}
    (hg : o.guard = none) (s x : Operand) (t u : TypeId) (hop : o.op = Op.call { callee := Callee.builtin Builtin.append, args := #[s, x], argTypes := #[t, u] })
    (v : Value) (b : ByteArray) (hs : a.eval s = v) (hx : a.eval x = .string b) (v' : Value) (w' : World) (hrun : (Builtin.append_ #[t, u] o.type #[v, .string b]).run P w = .ok v' w')
    (hK : K (a.put o.dst v') w') : if Region.wanted o (yielded ops a.tmps) = true then Oper.wp P o a w K Q else E := by
  have hw : Region.wanted o (yielded ops a.tmps) = true := by simp [Region.wanted, hg]
  rw [if_pos hw]
  unfold Oper.wp execOp
  simp only [hop, resolve, invoke, builtin, Sem.run_bind, Sem.run_pure, Result.andThen_ok, List.map_toArray, List.map_cons, List.map_nil, hs, hx, hrun]
  exact hK
/-- what Quoted answers, of what is read -/
def QR (s : ByteArray) (R : List UInt8 × Int × Int) (e : Ending) : Prop :=
  (R.2.2 = 0 ∧ ∃ K q : Nat, R.2.1 = (q : Int) ∧ Bg s K q ∧ e = .returned (.tuple #[.string ⟨R.1.toArray⟩, .int .i64 (K : Int), .int .i64 0, .int .i64 0])) ∨
  (R.2.2 ≠ 0 ∧ e = .returned (.tuple #[.string ⟨#[]⟩, .int .i64 0, .int .i64 R.2.1, .int .i64 R.2.2]))

set_option maxRecDepth 100000 in
set_option maxHeartbeats 3200000 in
theorem quoted_any (s : ByteArray) (hs : s.size ≤ 11000000) {w : World} {ad : Option Addr} (cap : Nat) (hL : Lp w ad (pieces s)) (i p : Nat) (hb : Bg s (i + 1) p) (hi : i ≤ (pieces s).length) (nx0 : Int) (hnx0 : nx0 ≤ (p : Int)) :
    Calls Tryd.prog 78 #[.string s, .slice ad (pieces s).length cap, .int .i64 (i : Int)] w fun e w' => QR s (rqG s ((pieces s).drop (i + 1)) nx0 []) e ∧ Below w.heap.size w w' := by
  obtain ⟨i0, hi0, hz0, hz1, hz2⟩ := info_parts info5
  have hpl := Wd.pieces_len s
  have hl : (pieces s).length ≤ 11000000 := by omega
  have RA := fun (k pos : Nat) (h : Bg s k pos) (hk : k < (pieces s).length) => rq_at h hk
  have RE := fun (k : Nat) (hk : (pieces s).length ≤ k) (nx : Int) (acc : List UInt8) => rq_end hk nx acc
  have ES := fun (k : Nat) (hk : (k : Int) ≤ 11000000) (wr : World) (hB : Below w.heap.size w wr) => escaped_any cap (hL.below hB) hl k hk
  have HC : Hid (∀ k (hk : k < (pieces s).length) wr, Below w.heap.size w wr → ∃ g, ad = some ⟨g, 0, none⟩ ∧ g < wr.heap.size ∧ wr.cell? ⟨g, k * 4, none⟩ = some (.int .i64 (pieces s)[k].1) ∧ wr.cell? ⟨g, k * 4 + 1, none⟩ = some (.int .i64 (pieces s)[k].2.1) ∧ wr.cell? ⟨g, k * 4 + 2, none⟩ = some (.int .i64 (pieces s)[k].2.2.1) ∧ wr.cell? ⟨g, k * 4 + 3, none⟩ = some (.bool (pieces s)[k].2.2.2)) := by
    intro k hk wr hB
    exact hL.below hB k hk
  have HR0 : Hid (∃ pos nx, Bg s (i + 1) pos ∧ nx ≤ (pos : Int) ∧ rqG s ((pieces s).drop (i + 1)) nx0 [] = rqG s ((pieces s).drop (i + 1)) nx []) := ⟨p, nx0, hb, hnx0, rfl⟩
  have HRA := hide RA
  have HRE := hide RE
  have HES := hide ES
  have HQ : Hid (∀ R, R = rqG s ((pieces s).drop (i + 1)) nx0 [] → QR s R = QR s (rqG s ((pieces s).drop (i + 1)) nx0 [])) := fun R h => by rw [h]
  clear RA RE ES hb hnx0 hL
  generalize rqG s ((pieces s).drop (i + 1)) nx0 [] = R at *
  obtain ⟨PS, hPS⟩ : ∃ PS, pieces s = PS := ⟨_, rfl⟩
  have HPS := hide hPS
  obtain ⟨N, hN⟩ : ∃ N, (pieces s).length = N := ⟨_, rfl⟩
  have HN := hide hN
  rw [hN] at hpl hl hi ⊢
  clear hN hPS
  have hiI : (i : Int) ≤ 11000000 := by omega
  go_enter Tryd.func78, Tryd.ntmps78
  go_wp2_with fail
  go_loopw [10, 11] (fun b kv wr => ∃ (k : Nat) (acc : List UInt8), kv = .int .i64 (k : Int) ∧ k ≤ 11000020 ∧ acc.length ≤ 4 * k ∧ wr.ownsRow w.heap.size 5 1 b acc.length (bcs acc) ∧ Below w.heap.size w wr ∧ Hid (∃ pos nx, Bg s k pos ∧ nx ≤ (pos : Int) ∧ R = rqG s ((pieces s).drop k) nx acc)) (fun _ kv _ => 11000050 - (intOf kv).toNat)
  case atStart => exact ⟨i + 1, [], by go_num, by omega, by simp, World.ownsRow_nil _ _ _ _, Below.refl _ _, HR0⟩
  case round =>
    obtain ⟨k, acc, rfl, hk, hacc, hrow, hB, HI⟩ := hrel
    by_cases hlt : k < N
    · have hkP : k < (pieces s).length := by rw [HN.out]; exact hlt
      obtain ⟨g, rfl, hg, c0, c1, c2, c3⟩ := HC.out k hkP wr hB
      obtain ⟨pos, nx, hBg, hnx, hR⟩ := HI.out
      obtain ⟨r, z, br, hx, hz4, hpz, hBn, hpos, h34, h92, hel, hrq⟩ := HRA.out k pos hBg hkP
      have hE := HES.out k (by omega) wr hB
      rw [hx] at c0 c1 c2 c3
      rw [HN.out] at hE
      simp only at c0 c1 c2 c3
      have hltI : (k : Int) < (N : Int) := by omega
      have hposI : (pos : Int) ≤ 11000000 := by omega
      have H := hidden_any r wr
      have HR := hide (hR.trans (hrq nx acc hnx))
      have KP : ∀ w5, Below w.heap.size w w5 → w5.cell? ⟨g, k * 4 + 1, none⟩ = some (.int .i64 (pos : Int)) ∧ w5.cell? ⟨g, k * 4 + 2, none⟩ = some (.int .i64 (z : Int)) := fun w5 h5 => by
        obtain ⟨g', hg', _, _, d1, d2, _⟩ := HC.out k hkP w5 h5
        cases hg'
        rw [hx] at d1 d2
        exact ⟨d1, d2⟩
      have HKP := hide KP
      clear hR hrq HI HC HRA HRE HES HR0 hx KP
      cases br
      · by_cases q1 : r = 34
        · have b1 : (r == 34) = true := by rw [q1]; rfl
          have HE : Hid (QR s R (.returned (.tuple #[.string ⟨acc.toArray⟩, .int .i64 ((k : Int) + 1), .int .i64 0, .int .i64 0]))) := by
            have e := HR.out
            rw [if_neg (by simp), if_pos q1] at e
            rw [e]
            exact .inl ⟨rfl, k + 1, pos + 1, rfl, h34 rfl q1, rfl⟩
          have kc := conv_row hrow
          clear HR h34 h92 q1
          go_wp2_with fail
          refine H.mono ?_; rintro e w2 ⟨rfl, hw⟩; obtain rfl := hw.symm
          go_wp2
          (try simp only [Exit.inBlock, Exit.then])
          refine bodyPost_ret (results_tmp4 rfl _ _ _) rfl ?_
          exact ⟨HE.out, hB⟩
        have b1 : (r == 34) = false := beq_eq_false_iff_ne.2 q1
        by_cases q2 : r = 92
        · have b2 : (r == 92) = true := by rw [q2]; rfl
          obtain ⟨hBe, he10⟩ := h92 rfl q2
          have e := HR.out
          rw [if_neg (by simp), if_neg q1, if_pos q2] at e
          generalize escA (aA (pieces s) k) = E at *
          obtain ⟨EB, en⟩ := E
          simp only at e hel hE hBe he10
          have hPz : (⟨EB.toArray⟩ : ByteArray).size = EB.length := by show EB.toArray.size = _; simp
          by_cases q3 : en = 0
          · have b3 : ((en : Int) == 0) = true := by rw [q3]; rfl
            have HE : Hid (QR s R (.returned (.tuple #[.string ⟨#[]⟩, .int .i64 0, .int .i64 (pos : Int), .int .i64 12]))) := by
              rw [if_pos q3] at e
              rw [e]
              exact .inr ⟨by show (12 : Int) ≠ 0; decide, rfl⟩
            clear HR h34 h92 q1 q2 q3 e hBe
            go_wp2_with fail
            refine H.mono ?_; rintro e w2 ⟨rfl, hw⟩; obtain rfl := hw.symm
            go_wp2_with fail
            refine hE.mono ?_; rintro e w2 ⟨rfl, hb2⟩
            have d1 := (hb2.cell (p := ⟨g, k * 4 + 1, none⟩) hg).trans c1
            clear c0 c1 c2 c3
            go_wp2
            go_region
            all_goals go_wp2
            all_goals exact bodyPost_ret (v := .tuple #[.string ⟨#[]⟩, .int .i64 0, .int .i64 (pos : Int), .int .i64 12]) (by simp [results, Tryd.results78, go_sem]) rfl ⟨HE.out, (hB.trans (hb2.mono hB.size)).drew⟩
          · have b3 : ((en : Int) == 0) = false := by rw [beq_eq_false_iff_ne]; omega
            have HI2 : Hid (∃ pos nx, Bg s (k + en) pos ∧ nx ≤ (pos : Int) ∧ R = rqG s ((pieces s).drop (k + en)) nx (acc ++ EB)) := by
              rw [if_neg q3] at e
              exact ⟨pos + en, (pos : Int) + (en : Int), hBe, by omega, e⟩
            have HM : Hid (acc.length + EB.length ≤ 4 * (k + en) ∧ k + en ≤ 11000020 ∧ 11000050 - (k + en) < 11000050 - k) := ⟨by omega, by omega, by omega⟩
            have henI : (en : Int) ≤ 10 := by omega
            have hEl : EB.length ≤ 40 := by omega
            have hAl : acc.length ≤ 44000000 := by omega
            clear HR h34 h92 q1 q2 q3 e hBe he10 hel
            go_wp2_with fail
            refine H.mono ?_; rintro e w2 ⟨rfl, hw⟩; obtain rfl := hw.symm
            go_wp2_with fail
            refine hE.mono ?_; rintro e w2 ⟨rfl, hb2⟩
            have hown2 := own_below hrow hb2
            have hB2 := hB.trans (hb2.mono hB.size)
            clear c0 c1 c2 c3 H hE hrow hB hb2
            go_wp2_with (at_builtin; refine Lib.wpList_append_own_string _ rfl _ _ 75 9 rfl w.heap.size 5 i0 Tryd.underlying75 Tryd.underlying9 hi0 hz0 hz1 hz2 _ acc.length (bcs acc) rfl hown2 ⟨EB.toArray⟩ rfl ?qa1 ?qb1 ?qc1 ?_; rotate_left 3; intro v' w5 hown' hgrow _)
            · obtain ⟨m1, m2, m3⟩ := HM.out
              refine ⟨⟨k + en, acc ++ EB, by go_num, m2, by rw [List.length_append]; exact m1, ?_, ?_, HI2⟩, by simp [intOf]; omega⟩
              · rw [List.length_append, bcs_append]
                rw [strCells_is, hPz] at hown'
                exact hown'
              · exact hB2.grown hgrow hB2.size (fun j ej => by
                  rcases hown2.2 with ⟨hv0, _⟩ | ⟨g, cap, cur, hv0, hgb, _⟩
                  · rw [hv0] at ej; cases ej
                  · rw [hv0] at ej; cases ej; exact hgb)
            · rw [hPz]; unfold maxLen; omega
            · rw [hPz]; omega
            · exact hB2.size
        · have b2 : (r == 92) = false := beq_eq_false_iff_ne.2 q2
          have e := HR.out
          rw [if_neg (by simp), if_neg q1, if_neg q2] at e
          have hpf : plainF r = !hidB r := rfl
          rw [hpf] at e
          cases hh : hidB r
          · rw [hh] at e H
            rw [if_pos (by simp)] at e
            have HI2 : Hid (∃ pos2 nx, Bg s (k + 1) pos2 ∧ nx ≤ (pos2 : Int) ∧ R = rqG s ((pieces s).drop (k + 1)) nx (acc ++ (s.extract pos (pos + z)).data.toList)) := ⟨pos + z, nx, hBn, by omega, e⟩
            have hXl : (s.extract pos (pos + z)).size = z := by rw [ByteArray.size_extract]; omega
            obtain ⟨P, hP⟩ : ∃ P : Int, (pos : Int) = P := ⟨_, rfl⟩
            obtain ⟨K, hK⟩ : ∃ K : Int, (z : Int) = K := ⟨_, rfl⟩
            have hsl0 : ∀ W, (Instr.slice 9 (.string s) (some (.int .i64 P)) (some (.int .i64 (P + K))) none).run Tryd.prog W = .ok (.string (s.extract pos (pos + z))) W := fun W => by
              rw [run_slice_string W 9 s .i64 .i64 _ _ Tryd.underlying9 (by omega) (by omega) (by omega), show P.toNat = pos by omega, show (P + K).toNat = pos + z by omega]
            have hsl : ∀ W, (Instr.slice 9 (.string s) (some (.int .i64 P)) (some (.int .i64 (IntKind.i64.wrap (P + K)))) none).run Tryd.prog W = .ok (.string (s.extract pos (pos + z))) W := fun W => by
              rw [show IntKind.i64.wrap (P + K) = P + K by rw [IntKind.wrap_i64]; omega]; exact hsl0 W
            have hP0 : 0 ≤ P := by omega
            have hPK : P + K ≤ 11000000 := by omega
            have hK0 : 0 ≤ K := by omega
            rw [hP] at c1 HKP
            rw [hK] at c2 HKP
            generalize hXX : s.extract pos (pos + z) = XX at *
            have HM : Hid (acc.length + XX.data.toList.length ≤ 4 * (k + 1) ∧ k + 1 ≤ 11000020 ∧ 11000050 - (k + 1) < 11000050 - k ∧ XX.data.toList.length = XX.size ∧ XX.size ≤ 4) := by
              have : XX.data.toList.length = XX.size := by rw [Array.length_toList]; rfl
              exact ⟨by omega, by omega, by omega, this, by omega⟩
            have hAl : acc.length ≤ 44000000 := by omega
            clear HR h34 h92 q1 q2 e hBn hE hP hK hXX hpz hpf hh hXl hel
            go_wp2_with fail
            refine H.mono ?_; rintro e w2 ⟨rfl, hw⟩; obtain rfl := hw.symm
            have hrowd : wr.drew.ownsRow w.heap.size 5 1 _ acc.length (bcs acc) := hrow
            have hBd : Below w.heap.size w wr.drew := hB.drew
            obtain ⟨v', w5, hrun, hown', hgrow, _⟩ := Lib.run_append_own_string (P := Tryd.prog) wr.drew w.heap.size 75 9 75 5 i0 Tryd.underlying75 Tryd.underlying9 hi0 hz0 hz1 hz2 _ acc.length (bcs acc) hrowd XX (by have := HM.out.2.2.2.2; unfold maxLen; omega) (by have := HM.out.2.2.2.2; omega) hBd.size
            have hB5 := hBd.grown hgrow hBd.size (fun j ej => by
              rcases hrowd.2 with ⟨hv0, _⟩ | ⟨g', cap', cur', hv0, hgb, _⟩
              · rw [hv0] at ej; cases ej
              · rw [hv0] at ej; cases ej; exact hgb)
            clear hgrow
            go_wp2_with fail
            go_region_held_law (fun w' => w'.cell? ⟨g, k * 4 + 1, none⟩ = some (.int .i64 P) ∧ w'.cell? ⟨g, k * 4 + 2, none⟩ = some (.int .i64 K)) (first | exact HKP.out _ hB5 | go_keep) (refine step_append_run rfl (.tmp 27) (.tmp 45) 75 9 rfl _ XX rfl rfl v' w5 hrun ?_)
            obtain ⟨m1, m2, m3, m4, m5⟩ := HM.out
            go_wp2
            refine ⟨⟨k + 1, acc ++ XX.data.toList, by go_num, m2, by rw [List.length_append]; exact m1, ?_, hB5, HI2⟩, by simp [intOf]; omega⟩
            rw [List.length_append, bcs_append, m4]
            rw [strCells_own] at hown'
            exact hown'
          · rw [hh] at e H
            have HE : Hid (QR s R (.returned (.tuple #[.string ⟨#[]⟩, .int .i64 0, .int .i64 (pos : Int), .int .i64 12]))) := by
              rw [if_neg (by simp)] at e
              rw [e]
              exact .inr ⟨by show (12 : Int) ≠ 0; decide, rfl⟩
            clear HR h34 h92 q1 q2 e hBn hE hpf hh hel
            go_wp2_with fail
            refine H.mono ?_; rintro e w2 ⟨rfl, hw⟩; obtain rfl := hw.symm
            go_wp2
            go_region
            all_goals go_wp2
            all_goals exact bodyPost_ret (v := .tuple #[.string ⟨#[]⟩, .int .i64 0, .int .i64 (pos : Int), .int .i64 12]) (by simp [results, Tryd.results78, go_sem]) rfl ⟨HE.out, hB.drew⟩
      · have HE : Hid (QR s R (.returned (.tuple #[.string ⟨#[]⟩, .int .i64 0, .int .i64 (pos : Int), .int .i64 13]))) := by
          have e := HR.out
          rw [if_pos rfl] at e
          rw [e]
          exact .inr ⟨by show (13 : Int) ≠ 0; decide, rfl⟩
        clear HR h34 h92
        go_wp2_with fail
        refine H.mono ?_; rintro e w2 ⟨rfl, hw⟩; obtain rfl := hw.symm
        go_wp2
        go_region
        all_goals go_wp2
        all_goals exact bodyPost_ret (v := .tuple #[.string ⟨#[]⟩, .int .i64 0, .int .i64 (pos : Int), .int .i64 13]) (by simp [results, Tryd.results78, go_sem]) rfl ⟨HE.out, hB.drew⟩
    · have HE : Hid (QR s R (.returned (.tuple #[.string ⟨#[]⟩, .int .i64 0, .int .i64 (s.size : Int), .int .i64 11]))) := by
        obtain ⟨pos, nx, hBg, hnx, hR⟩ := HI.out
        rw [HRE.out k (by rw [HN.out]; omega)] at hR
        rw [hR]
        exact .inr ⟨by show (11 : Int) ≠ 0; decide, rfl⟩
      have hge : ¬ (k : Int) < (N : Int) := by omega
      clear HI HC HRA HRE HES HR0
      go_wp2
      (try simp only [Exit.inBlock, Exit.then])
      refine bodyPost_ret (results_tmp4 rfl _ _ _) rfl ?_
      exact ⟨HE.out, hB⟩
end Go.Proofs.YtckjededijgjgaaDoor.Ur
namespace Go.Proofs.YtckjededijgjgaaDoor.Ur
open Go.RowKit
open Go.Proofs.YtckjededijgjgaaDoor.Pc (P4 pieces)
open Go.Proofs.YtckjededijgjgaaDoor.Uq (rqG unqF preQ three)
open Go.Proofs.YtckjededijgjgaaDoor.Wd (Bg bg_step bg_end bg_zero)
set_option linter.unusedVariables false

theorem preQ_iff (l : List UInt8) : preQ l = true ↔ l[0]? = some 34 := by
  cases l with
  | nil => simp [Uq.preQ, Lib.hasPrefix]
  | cons x t =>
    have e : preQ (x :: t) = (34 == x) := by simp [Uq.preQ, Lib.hasPrefix, List.isPrefixOf]
    rw [e, beq_iff_eq, List.getElem?_cons_zero]
    constructor
    · intro h; rw [h]
    · intro h; exact (Option.some.inj h).symm
theorem first_of (s : ByteArray) : atL (pieces s) 0 = 34 ↔ preQ s.data.toList = true := by
  rw [preQ_iff]
  rcases at_bg (bg_zero s) with ⟨h1, h2, h3, h4⟩ | ⟨h1, h2⟩
  · rw [h3, Ft.get_list s 0 h1]
    constructor
    · intro h
      exact congrArg some (UInt8.toNat_inj.1 (by simpa using (by omega : (s.get! 0).toNat = 34)))
    · intro h
      rw [Option.some.inj h]; rfl
  · constructor
    · intro h; omega
    · intro h
      have hlt : 0 < s.data.toList.length := (List.getElem?_eq_some_iff.1 h).1
      have hlt' : 0 < s.size := by rw [Array.length_toList] at hlt; exact hlt
      rw [Ft.get_list s 0 hlt'] at h
      rw [Option.some.inj h] at h2
      rcases h2 with h2 | h2
      · omega
      · exact absurd h2 (by decide)
theorem first_bg {s : ByteArray} (h : atL (pieces s) 0 = 34) : Bg s 1 1 ∧ 0 < s.size := by
  rcases at_bg (bg_zero s) with ⟨h1, h2, h3, h4⟩ | ⟨h1, h2⟩
  · exact ⟨h4, h1⟩
  · omega
theorem first_skip {s : ByteArray} (h : atL (pieces s) 0 = 34) : rqG s (pieces s) 1 [] = rqG s ((pieces s).drop 1) 1 [] := by
  have := rq_skip (s := s) (k := 0) (pos := 0) (n := 1) (fun m hm => by
    obtain rfl : m = 0 := by omega
    exact ⟨(first_bg h).2, bg_zero s⟩) [] 1 0 rfl
  exact this

set_option maxRecDepth 100000 in
set_option maxHeartbeats 1600000 in
theorem refUnquote_any (s : ByteArray) (hs : s.size ≤ 11000000) (w : World) :
    Calls Tryd.prog 39 #[.string s] w fun e W' => e = .returned (three (unqF s)) ∧ Below w.heap.size w W' := by
  have RP := Rp.refPieces_big s hs w
  have hpl := Wd.pieces_len s
  by_cases hq : atL (pieces s) 0 = 34
  · have hQ := (first_of s).1 hq
    obtain ⟨hbg, _⟩ := first_bg hq
    have hR : unqF s = if (rqG s ((pieces s).drop 1) 1 []).2.2 ≠ 0 then ([], (rqG s ((pieces s).drop 1) 1 []).2.1, (rqG s ((pieces s).drop 1) 1 []).2.2) else if (rqG s ((pieces s).drop 1) 1 []).2.1 < (s.size : Int) then ([], (rqG s ((pieces s).drop 1) 1 []).2.1, 11) else ((rqG s ((pieces s).drop 1) 1 []).1, 0, 0) := by
      unfold Uq.unqF
      rw [first_skip hq, if_neg (by rw [hQ]; simp)]
    have QD := fun (W : World) (ad : Option Addr) (cap : Nat) (hL : Lp W ad (pieces s)) => quoted_any s hs cap hL 0 1 hbg (Nat.zero_le _) 1 (by omega)
    have HST := fun (K q : Nat) (h : Bg s K q) (hk : K < (pieces s).length) => bg_step h hk
    have HEN := fun (K q : Nat) (h : Bg s K q) (hk : (pieces s).length ≤ K) => bg_end h hk
    have HQD := hide QD
    have HSTh := hide HST
    have HENh := hide HEN
    clear QD HST HEN
    rw [hR]
    clear hR hQ hbg
    generalize rqG s ((pieces s).drop 1) 1 [] = R at *
    obtain ⟨T, pl, er⟩ := R
    obtain ⟨F, hF⟩ : ∃ F, three (if er ≠ 0 then ([], pl, er) else if pl < (s.size : Int) then ([], pl, 11) else (T, 0, 0)) = F := ⟨_, rfl⟩
    have HF := hide hF
    simp only at HF ⊢
    rw [hF]
    clear hF
    go_enter Tryd.func39, Tryd.ntmps39
    go_wp2_with fail
    refine RP.mono ?_; rintro e w1 ⟨v, rfl, hrow, hb1⟩
    obtain ⟨ad, cap, rfl, hL⟩ := lp_of hrow
    have A0 : Calls Tryd.prog 77 #[.slice ad (pieces s).length cap, .int .i64 0] w1 fun e w' => e = .returned (.int .i64 34) ∧ w' = w1 := by
      have := at_any cap hL (by omega) 0
      rw [hq] at this
      exact this
    have Q0 : Calls Tryd.prog 78 #[.string s, .slice ad (pieces s).length cap, .int .i64 0] w1 fun e w' => QR s (T, pl, er) e ∧ Below w1.heap.size w1 w' := HQD.out w1 ad cap hL
    clear RP hrow HQD hq
    obtain ⟨N, hN⟩ : ∃ N, (pieces s).length = N := ⟨_, rfl⟩
    have HN := hide hN
    have HL := hide hL
    rw [hN] at A0 Q0 ⊢
    clear hN hL hpl
    go_wp2_with fail
    refine A0.mono ?_; rintro e w2 ⟨rfl, hw⟩; obtain rfl := hw.symm
    go_wp2_with fail
    refine Q0.mono ?_; rintro e w2 ⟨hqr, hb2⟩
    rcases hqr with ⟨h0, K, q, hpl2, hBg, rfl⟩ | ⟨h0, rfl⟩
    · have h0' : er = 0 := h0
      have hp' : pl = (q : Int) := hpl2
      subst h0' hp'
      by_cases hlt : K < N
      · obtain ⟨hqs, hpc, _, _⟩ := HSTh.out K q hBg (by rw [HN.out]; exact hlt)
        obtain ⟨g, rfl, hg, c0, c1, c2, c3⟩ := HL.out K (by rw [HN.out]; exact hlt)
        rw [hpc, (Wd.pcF_end s q).1] at c1
        have d1 := (hb2.cell (p := ⟨g, K * 4 + 1, none⟩) hg).trans c1
        have hltI : (K : Int) < (N : Int) := by omega
        have HE : Hid (F = .tuple #[.string ⟨#[]⟩, .int .i64 (q : Int), .int .i64 11]) := by
          show _ = _
          rw [← HF.out, if_neg (by simp), if_pos (by omega)]
          rfl
        clear c0 c1 c2 c3 hpc HSTh HENh HL A0 Q0 hBg hqs h0 hpl2 HF
        go_wp2
        go_region
        all_goals go_wp2
        all_goals exact bodyPost_ret (v := .tuple #[.string ⟨#[]⟩, .int .i64 (q : Int), .int .i64 11]) (by simp [results, Tryd.results39, go_sem]) rfl ⟨(congrArg Ending.returned HE.out).symm, (hb1.trans (hb2.mono hb1.size)).drew⟩
      · have hqs := HENh.out K q hBg (by rw [HN.out]; omega)
        have hge : ¬ (K : Int) < (N : Int) := by omega
        have HE : Hid (F = .tuple #[.string ⟨T.toArray⟩, .int .i64 0, .int .i64 0]) := by
          show _ = _
          rw [← HF.out, if_neg (by simp), if_neg (by omega)]
          rfl
        clear HSTh HENh HL A0 Q0 hBg hqs h0 hpl2 HF
        go_wp2
        go_ret3
        exact ⟨(congrArg Ending.returned HE.out).symm, hb1.trans (hb2.mono hb1.size)⟩
    · have h0' : er ≠ 0 := h0
      have b0 : (er != 0) = true := by rw [bne_iff_ne]; exact h0'
      have HE : Hid (F = .tuple #[.string ⟨#[]⟩, .int .i64 pl, .int .i64 er]) := by
        show _ = _
        rw [← HF.out, if_pos h0']
        rfl
      clear HSTh HENh HL A0 Q0 h0 h0' HF
      go_wp2
      go_ret3
      exact ⟨(congrArg Ending.returned HE.out).symm, hb1.trans (hb2.mono hb1.size)⟩
  · have hQ : preQ s.data.toList = false := by
      rw [Bool.eq_false_iff]; exact fun h => hq ((first_of s).2 h)
    have hR : unqF s = ([], 0, 11) := by
      unfold Uq.unqF
      rw [if_pos hQ]
    rw [hR]
    have b0 : (atL (pieces s) 0 != 34) = true := by rw [bne_iff_ne]; exact hq
    clear hR hQ
    go_enter Tryd.func39, Tryd.ntmps39
    go_wp2_with fail
    refine RP.mono ?_; rintro e w1 ⟨v, rfl, hrow, hb1⟩
    obtain ⟨ad, cap, rfl, hL⟩ := lp_of hrow
    have A0 : Calls Tryd.prog 77 #[.slice ad (pieces s).length cap, .int .i64 0] w1 fun e w' => e = .returned (.int .i64 (atL (pieces s) 0)) ∧ w' = w1 := at_any cap hL (by omega) 0
    clear RP hrow hq hL hpl
    generalize atL (pieces s) 0 = c at *
    generalize (pieces s).length = N at *
    go_wp2_with fail
    refine A0.mono ?_; rintro e w2 ⟨rfl, hw⟩; obtain rfl := hw.symm
    go_wp2
    go_ret3
    exact ⟨rfl, hb1⟩
end Go.Proofs.YtckjededijgjgaaDoor.Ur
