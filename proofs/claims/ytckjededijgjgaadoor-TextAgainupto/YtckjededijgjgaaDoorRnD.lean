import Derived.Test.YtckjededijgjgaaDoorRnC
import Derived.Test.YtckjededijgjgaaDoorRpE
import Derived.Test.YtckjededijgjgaaDoorEncD
import Derived.Lib.AppendStr
import Derived.Laws.IdiomStrings
namespace Go.Proofs.YtckjededijgjgaaDoor.Rn
open Go.RowKit Go.Proofs.YtckjededijgjgaaDoor.Nm
open Go.Proofs.YtckjededijgjgaaDoor.Pc (P4 pieces)
open Go.Proofs.YtckjededijgjgaaDoor.Rp (cellsR cellsR4 refPieces_any)
set_option linter.unusedVariables false

def bcs (l : List UInt8) : List Value := l.map fun b => Value.int .u8 (b.toNat : Int)
theorem strCells_is (l : List UInt8) : Lib.strCells ⟨l.toArray⟩ = bcs l := by simp [Lib.strCells, bcs]
theorem bcs_append (a b : List UInt8) : bcs (a ++ b) = bcs a ++ bcs b := by simp [bcs]
theorem info5 : (Tryd.prog.info? 5).map (fun i => (i.zero, i.size, i.bytes)) = some (some (.int .u8 0), 1, 1) := by kernel_rfl

theorem cellsR_get : ∀ (l : List P4) (k : Nat) (hk : k < l.length) (j : Nat), j < 4 → (cellsR l)[k * 4 + j]? = (cellsR4 l[k])[j]?
  | x :: t, 0, _, j, hj => by
    show (cellsR4 x ++ cellsR t)[0 * 4 + j]? = _
    rw [List.getElem?_append_left (by simp [cellsR4]; omega)]
    simp
  | x :: t, k + 1, hk, j, hj => by
    show (cellsR4 x ++ cellsR t)[(k + 1) * 4 + j]? = _
    rw [List.getElem?_append_right (by simp [cellsR4]; omega)]
    have : (k + 1) * 4 + j - (cellsR4 x).length = k * 4 + j := by simp [cellsR4]; omega
    rw [this, cellsR_get t k (by simpa using hk) j hj]
    rfl

theorem row_at {w : World} {base : Nat} {v : Value} {l : List P4} (h : w.ownsRow base 97 4 v l.length (cellsR l)) {k : Nat} (hk : k < l.length) : ∃ g cap, v = .slice (some ⟨g, 0, none⟩) l.length cap ∧ g < w.heap.size ∧
    w.cell? ⟨g, k * 4, none⟩ = some (.int .i64 l[k].1) ∧ w.cell? ⟨g, k * 4 + 1, none⟩ = some (.int .i64 l[k].2.1) ∧ w.cell? ⟨g, k * 4 + 2, none⟩ = some (.int .i64 l[k].2.2.1) ∧ w.cell? ⟨g, k * 4 + 3, none⟩ = some (.bool l[k].2.2.2) := by
  rcases h.2 with ⟨_, h0⟩ | ⟨g, cap, cur, hv, hb, hg, hr⟩
  · omega
  · subst hv
    have hc : ∀ j u, (cellsR l)[j]? = some u → w.cell? ((⟨g, 0, none⟩ : Addr).add j) = some u := h.cells rfl
    have hlt : g < w.heap.size := by
      rcases Nat.lt_or_ge g w.heap.size with h' | h'
      · exact h'
      · rw [Array.getElem?_eq_none h'] at hg; cases hg
    have at' : ∀ j u, j < 4 → (cellsR4 l[k])[j]? = some u → w.cell? ⟨g, k * 4 + j, none⟩ = some u := by
      intro j u hj hu
      have := hc (k * 4 + j) u (by rw [cellsR_get l k hk j hj]; exact hu)
      rw [Pc.addP, Nat.zero_add] at this
      exact this
    exact ⟨g, cap, rfl, hlt, at' 0 _ (by omega) rfl, at' 1 _ (by omega) rfl, at' 2 _ (by omega) rfl, at' 3 _ (by omega) rfl⟩

theorem enc_len (v : Int) (h0 : 0 ≤ v) (h1 : v ≤ 1135) : (Lib.encodeRune v).length ≤ 2 := by
  obtain ⟨n, rfl⟩ := Int.eq_ofNat_of_zero_le h0
  have h1' : n ≤ 1135 := by omega
  by_cases h : n < 128
  · have := enc_one h
    show (Lib.encodeRune (n : Int)).length ≤ 2
    rw [this]; simp
  · have := enc_two (v := n) (by omega) (by omega)
    show (Lib.encodeRune (n : Int)).length ≤ 2
    rw [this]; simp

theorem pieces_pos {s : ByteArray} (h : s.size ≠ 0) : 0 < (pieces s).length := by
  obtain ⟨n, hn⟩ : ∃ n, s.size = n + 1 := ⟨s.size - 1, by omega⟩
  unfold Pc.pieces
  rw [hn, Pc.piecesFrom, if_pos (by omega)]
  simp
theorem pieces_nil {s : ByteArray} (h : s.size = 0) : pieces s = [] := by
  unfold Pc.pieces
  rw [h]
  rfl

theorem conv_row {w : World} {base : Nat} {v : Value} {acc : List UInt8} (h : w.ownsRow base 5 1 v acc.length (bcs acc)) : (convert 75 9 v).run Tryd.prog w = .ok (.string ⟨acc.toArray⟩) w := by
  rcases h.2 with ⟨rfl, h0⟩ | ⟨g, cap, cur, rfl, hb, hg, hr⟩
  · obtain rfl := List.eq_nil_of_length_eq_zero h0
    exact run_convert_bytes_nil w 75 5 Tryd.underlying75 Tryd.underlying5 0 0 9 Tryd.underlying9
  · refine run_convert_bytes_back w 75 9 5 ⟨g, 0, none⟩ cap acc Tryd.underlying75 Tryd.underlying5 Tryd.underlying9 (fun j hj => ?_)
    have hc : ∀ j u, (bcs acc)[j]? = some u → w.cell? ((⟨g, 0, none⟩ : Addr).add j) = some u := h.cells rfl
    exact hc j _ (by simp [bcs, List.getElem?_eq_getElem hj])

theorem own_below {w w' : World} {base n : Nat} {v : Value} {l : List Value} (h : w.ownsRow base 5 1 v n l) (hb : Below w.heap.size w w') : w'.ownsRow base 5 1 v n l := by
  refine ⟨h.1, ?_⟩
  rcases h.2 with hn | ⟨g, cap, cur, hv, hbg, hg, hr⟩
  · exact .inl hn
  · refine .inr ⟨g, cap, cur, hv, hbg, (hb.block g ?_).trans hg, hr⟩
    rcases Nat.lt_or_ge g w.heap.size with h' | h'
    · exact h'
    · rw [Array.getElem?_eq_none h'] at hg; cases hg

theorem refName_none (s : ByteArray) (h0 : s.size = 0) (w : World) :
    Calls Tryd.prog 27 #[.string s] w fun e W' => e = .returned (.tuple #[.string ⟨#[]⟩, .int .i64 0, .int .i64 17]) ∧ Below w.heap.size w W' := by
  have RP := refPieces_any s (by omega) w
  rw [pieces_nil h0] at RP
  go_enter Tryd.func27, Tryd.ntmps27
  go_wp2_with fail
  refine RP.mono ?_; rintro e w1 ⟨v, rfl, hrow, hb1⟩
  obtain ⟨ad, cap, hv⟩ : ∃ ad cap, v = .slice ad 0 cap := by
    rcases hrow.2 with ⟨rfl, _⟩ | ⟨g, cap, cur, rfl, _⟩
    · exact ⟨_, _, rfl⟩
    · exact ⟨_, _, rfl⟩
  subst hv
  go_wp2
  exact bodyPost_ret (v := .tuple #[.string ⟨#[]⟩, .int .i64 0, .int .i64 17]) (by simp [results, Tryd.results27, go_sem]) rfl ⟨rfl, hb1⟩

set_option maxRecDepth 100000 in
set_option maxHeartbeats 1600000 in
theorem refName_some (s : ByteArray) (hs : s.size ≤ 1048576) (h0 : s.size ≠ 0) (w : World) :
    Calls Tryd.prog 27 #[.string s] w fun e W' => e = .returned (.tuple #[.string ⟨(nameR s).1.toArray⟩, .int .i64 (nameR s).2.1, .int .i64 (nameR s).2.2]) ∧ Below w.heap.size w W' := by
  obtain ⟨i0, hi, hz0, hz1, hz2⟩ := info_parts info5
  have RP := refPieces_any s hs w
  have hpos := pieces_pos h0
  have hr : nameR s = nameG (pieces s) 0 [] := by unfold nameR; rw [if_neg h0]
  rw [hr]
  generalize pieces s = PS at *
  obtain ⟨a, p, e0, hans⟩ : ∃ a p e0, nameG PS 0 [] = (a, p, e0) := ⟨_, _, _, rfl⟩
  rw [hans]
  simp only
  have HANS := hide hans
  clear hr hans hs h0
  go_enter Tryd.func27, Tryd.ntmps27
  go_wp2_with fail
  refine RP.mono ?_; rintro e w1 ⟨v, rfl, hrow, hb1⟩
  obtain ⟨g, cap, hv, hg, _⟩ := row_at hrow (k := 0) hpos
  have HC : Hid (∀ k (hk : k < PS.length) wr, Below w1.heap.size w1 wr → wr.cell? ⟨g, k * 4, none⟩ = some (.int .i64 PS[k].1) ∧ wr.cell? ⟨g, k * 4 + 1, none⟩ = some (.int .i64 PS[k].2.1) ∧ wr.cell? ⟨g, k * 4 + 2, none⟩ = some (.int .i64 PS[k].2.2.1) ∧ wr.cell? ⟨g, k * 4 + 3, none⟩ = some (.bool PS[k].2.2.2)) := by
    intro k hk wr hB
    obtain ⟨g', cap', hv', hg', c0, c1, c2, c3⟩ := row_at hrow hk
    rw [hv] at hv'
    cases hv'
    exact ⟨(hB.cell (p := ⟨g, k * 4, none⟩) hg).trans c0, (hB.cell (p := ⟨g, k * 4 + 1, none⟩) hg).trans c1, (hB.cell (p := ⟨g, k * 4 + 2, none⟩) hg).trans c2, (hB.cell (p := ⟨g, k * 4 + 3, none⟩) hg).trans c3⟩
  have hNI : (PS.length : Int) ≤ 9223372036854775807 := by
    rcases hrow.2 with ⟨_, hn⟩ | ⟨_, _, _, _, _, _, hn, hn2, _⟩
    · omega
    · have : maxLen = 9223372036854775807 := rfl
      omega
  subst hv
  obtain ⟨N, hN⟩ : ∃ N, PS.length = N := ⟨_, rfl⟩
  have HN := hide hN
  rw [hN] at hNI hpos ⊢
  have hN0 : ((N : Int) == 0) = false := by simp; omega
  clear hN hrow RP hpos
  go_wp2_with fail
  go_loopw [6, 7] (fun b i wr => ∃ (k : Nat) (acc : List UInt8), i = .int .i64 (k : Int) ∧ k ≤ 24 ∧ k ≤ N ∧ wr.ownsRow w1.heap.size 5 1 b acc.length (bcs acc) ∧ Hid (nameG PS 0 [] = nameG (PS.drop k) k acc ∧ acc.length ≤ 2 * k) ∧ Below w1.heap.size w1 wr) (fun _ i _ => N - (intOf i).toNat)
  case atStart => exact ⟨0, [], rfl, by omega, by omega, World.ownsRow_nil _ _ _ _, ⟨by simp, by simp⟩, Below.refl _ _⟩
  case round =>
    obtain ⟨k, acc, rfl, hk24, hkN, hrow, HG, hB⟩ := hrel
    by_cases hlt : k < N
    · have hkP : k < PS.length := by rw [HN.out]; exact hlt
      obtain ⟨c0, c1, c2, c3⟩ := HC.out k hkP wr hB
      have hdr : PS.drop k = PS[k] :: PS.drop (k + 1) := List.drop_eq_getElem_cons hkP
      have HST : Hid ((a, p, e0) = nameG (PS[k] :: PS.drop (k + 1)) k acc) := by
        show _ = _
        rw [← HANS.out, HG.out.1, hdr]
      have HLA : Hid (acc.length ≤ 2 * k) := HG.out.2
      have hltI : (k : Int) < (N : Int) := by omega
      have HK4 := hide hk24
      generalize hx : PS[k] = x at *
      clear hdr hx hkP HG
      obtain ⟨r, at_, sz, br⟩ := x
      simp only at c0 c1 c2 c3
      have hB2 := hB.alloc hB.size (.cells #[.int .i64 r, .int .i64 at_, .int .i64 sz, .bool br] 97)
      have hB3 : Below w1.heap.size w1 (wr.alloc (.cells #[.int .i64 r, .int .i64 at_, .int .i64 sz, .bool br] 97)).drew := hB2.drew
      cases br
      case true =>
        have HA : Hid (([] : List UInt8) = a ∧ at_ = p ∧ (13 : Int) = e0) := by
          have := HST.out
          rw [nameG_broken rfl] at this
          simp only [Prod.mk.injEq] at this
          exact ⟨this.1.symm, this.2.1.symm, this.2.2.symm⟩
        clear HST HC hrow
        go_wp2
        go_region
        all_goals go_wp2
        all_goals exact bodyPost_ret (v := .tuple #[.string ⟨#[]⟩, .int .i64 at_, .int .i64 13]) (by simp [results, Tryd.results27, go_sem]) rfl ⟨by rw [← HA.out.1, ← HA.out.2.1, ← HA.out.2.2], hb1.trans (hB3.mono hb1.size)⟩
      case false =>
        have LT := fun w => letter_any r w
        have HNO : Hid (okR r k = false ∨ k = 24 → ([] : List UInt8) = a ∧ at_ = p ∧ (17 : Int) = e0) := by
          intro hno
          have := HST.out
          rw [nameG_no rfl hno] at this
          simp only [Prod.mk.injEq] at this
          exact ⟨this.1.symm, this.2.1.symm, this.2.2.symm⟩
        have HYES : Hid (okR r k = true → k ≠ 24 → (a, p, e0) = nameG (PS.drop (k + 1)) (k + 1) (acc ++ Lib.encodeRune (foldF r))) := by
          intro h1 h2
          have := HST.out
          rw [nameG_yes rfl h1 h2] at this
          exact this
        clear HST
        by_cases hl : (letF r lets).isSome = true
        · have hlp := (let_iff r).1 hl
          have q1 : ¬ r ≤ 57 := by unfold letP at hlp; omega
          have q1' : (48 : Int) ≤ r := by omega
          have q2 : (r == 45) = false := by unfold letP at hlp; simp; omega
          have q3 : (r == 95) = false := by unfold letP at hlp; simp; omega
          have q4 : (r == 46) = false := by unfold letP at hlp; simp; omega
          have hr1 : r ≤ 1103 := by unfold letP at hlp; omega
          rw [hl] at LT
          have hok : Hid (okR r k = true) := by show _ = _; unfold okR; rw [hl]; rfl
          clear hlp hl
          by_cases hk0 : (k : Int) > 0
          · by_cases hk24' : k = 24
            · have hk24I : (k : Int) ≥ 24 := by omega
              have HA := hide (HNO.out (.inr hk24'))
              clear HNO HYES HC hrow hk24'
              go_wp2_with fail
              refine (LT _).mono ?_; rintro e w2 ⟨rfl, rfl⟩
              go_wp2
              go_region
              all_goals go_wp2
              all_goals exact bodyPost_ret (v := .tuple #[.string ⟨#[]⟩, .int .i64 at_, .int .i64 17]) (by simp [results, Tryd.results27, go_sem]) rfl ⟨by rw [← HA.out.1, ← HA.out.2.1, ← HA.out.2.2], hb1.trans (hB3.mono hb1.size)⟩
            · have hk24I : ¬ (k : Int) ≥ 24 := by omega
              clear hk24'
              have HY := hide (HYES.out hok.out (by omega))
              have hbd := ok_bounds hok.out
              have FO := fun w => fold_any r w (by omega) (by omega)
              have EN := fun w => Enc.refEncode_yes (foldF r) w (encode_is hbd.1 hbd.2).1
              rw [(encode_is hbd.1 hbd.2).2] at EN
              have HEL := hide (enc_len (foldF r) hbd.1 hbd.2)
              generalize Lib.encodeRune (foldF r) = enc at *
              generalize foldF r = fr at *
              clear HNO HYES HC 
              go_wp2_with fail
              refine (LT _).mono ?_; rintro e w2 ⟨rfl, rfl⟩
              go_wp2_with fail
              refine (FO _).mono ?_; rintro e w3 ⟨rfl, rfl⟩
              go_wp2_with fail
              refine (EN _).mono ?_; rintro e w4 ⟨rfl, hb4⟩
              have hown4 := own_below (hrow.alloc (.cells #[.int .i64 r, .int .i64 at_, .int .i64 sz, .bool false] 97)) hb4
              have hB4 := hB2.trans (hb4.mono (Nat.le_trans hB2.size (Nat.le_refl _)))
              clear FO EN LT hb4
              go_wp2_with (at_builtin; refine Lib.wpList_append_own_string _ rfl _ _ 75 9 rfl w1.heap.size 5 i0 Tryd.underlying75 Tryd.underlying9 hi hz0 hz1 hz2 _ acc.length (bcs acc) rfl hown4 ⟨enc.toArray⟩ rfl ?qa1 ?qb1 ?qc1 ?_; rotate_left 3; intro v' w5 hown' hgrow _)
              · refine ⟨⟨k + 1, acc ++ enc, by go_num, by omega, by omega, ?_, ⟨HANS.out.trans HY.out, ?_⟩, ?_⟩, by simp [intOf]; omega⟩
                · rw [List.length_append, bcs_append]
                  rw [strCells_is] at hown'
                  exact hown'
                · have h1 := HLA.out
                  have h2 := HEL.out
                  rw [List.length_append]; omega
                · exact hB4.grown hgrow hB4.size (fun j ej => by
                    rcases hown4.2 with ⟨rfl, _⟩ | ⟨g', cap', cur, rfl, hgb, _⟩
                    · cases ej
                    · cases ej; exact hgb)
              · have h1 := HLA.out
                have h2 : (⟨enc.toArray⟩ : ByteArray).size ≤ 2 := HEL.out
                have h3 : maxLen = 9223372036854775807 := rfl
                omega
              · have h1 := HLA.out
                have h2 : (⟨enc.toArray⟩ : ByteArray).size ≤ 2 := HEL.out
                omega
              · exact hB4.size
          · have hk24I : ¬ (k : Int) ≥ 24 := by omega
            have HY := hide (HYES.out hok.out (by omega))
            have hbd := ok_bounds hok.out
            have FO := fun w => fold_any r w (by omega) (by omega)
            have EN := fun w => Enc.refEncode_yes (foldF r) w (encode_is hbd.1 hbd.2).1
            rw [(encode_is hbd.1 hbd.2).2] at EN
            have HEL := hide (enc_len (foldF r) hbd.1 hbd.2)
            generalize Lib.encodeRune (foldF r) = enc at *
            generalize foldF r = fr at *
            clear HNO HYES HC 
            go_wp2_with fail
            refine (LT _).mono ?_; rintro e w2 ⟨rfl, rfl⟩
            go_wp2_with fail
            refine (FO _).mono ?_; rintro e w3 ⟨rfl, rfl⟩
            go_wp2_with fail
            refine (EN _).mono ?_; rintro e w4 ⟨rfl, hb4⟩
            have hown4 := own_below (hrow.alloc (.cells #[.int .i64 r, .int .i64 at_, .int .i64 sz, .bool false] 97)) hb4
            have hB4 := hB2.trans (hb4.mono (Nat.le_trans hB2.size (Nat.le_refl _)))
            clear FO EN LT hb4
            go_wp2_with (at_builtin; refine Lib.wpList_append_own_string _ rfl _ _ 75 9 rfl w1.heap.size 5 i0 Tryd.underlying75 Tryd.underlying9 hi hz0 hz1 hz2 _ acc.length (bcs acc) rfl hown4 ⟨enc.toArray⟩ rfl ?qa2 ?qb2 ?qc2 ?_; rotate_left 3; intro v' w5 hown' hgrow _)
            · refine ⟨⟨k + 1, acc ++ enc, by go_num, by omega, by omega, ?_, ⟨HANS.out.trans HY.out, ?_⟩, ?_⟩, by simp [intOf]; omega⟩
              · rw [List.length_append, bcs_append]
                rw [strCells_is] at hown'
                exact hown'
              · have h1 := HLA.out
                have h2 := HEL.out
                rw [List.length_append]; omega
              · exact hB4.grown hgrow hB4.size (fun j ej => by
                  rcases hown4.2 with ⟨rfl, _⟩ | ⟨g', cap', cur, rfl, hgb, _⟩
                  · cases ej
                  · cases ej; exact hgb)
            · have h1 := HLA.out
              have h2 : (⟨enc.toArray⟩ : ByteArray).size ≤ 2 := HEL.out
              have h3 : maxLen = 9223372036854775807 := rfl
              omega
            · have h1 := HLA.out
              have h2 : (⟨enc.toArray⟩ : ByteArray).size ≤ 2 := HEL.out
              omega
            · exact hB4.size
        · have hl' : (letF r lets).isSome = false := by simpa using hl
          rw [hl'] at LT
          by_cases hk0 : (k : Int) > 0
          · have hkd : decide (0 < k) = true := by simp; omega
            by_cases hrb : restB r = true
            · have hok : Hid (okR r k = true) := by show _ = _; unfold okR; rw [hl', hkd, hrb]; rfl
              have hrb2 : (48 ≤ r ∧ r ≤ 57) ∨ r = 45 ∨ r = 95 ∨ r = 46 := by
                simp [restB] at hrb
                omega
              clear hl hl' hrb hkd
              by_cases hk24' : k = 24
              · have hk24I : (k : Int) ≥ 24 := by omega
                rcases hrb2 with ⟨q1, q2⟩ | rfl | rfl | rfl
                · have HA := hide (HNO.out (.inr hk24'))
                  clear HNO HYES HC hrow hk24'
                  go_wp2_with fail
                  refine (LT _).mono ?_; rintro e w2 ⟨rfl, rfl⟩
                  go_wp2
                  go_region
                  all_goals go_wp2
                  all_goals exact bodyPost_ret (v := .tuple #[.string ⟨#[]⟩, .int .i64 at_, .int .i64 17]) (by simp [results, Tryd.results27, go_sem]) rfl ⟨by rw [← HA.out.1, ← HA.out.2.1, ← HA.out.2.2], hb1.trans (hB3.mono hb1.size)⟩
                · have HA := hide (HNO.out (.inr hk24'))
                  clear HNO HYES HC hrow hk24'
                  go_wp2_with fail
                  refine (LT _).mono ?_; rintro e w2 ⟨rfl, rfl⟩
                  go_wp2
                  go_region
                  all_goals go_wp2
                  all_goals exact bodyPost_ret (v := .tuple #[.string ⟨#[]⟩, .int .i64 at_, .int .i64 17]) (by simp [results, Tryd.results27, go_sem]) rfl ⟨by rw [← HA.out.1, ← HA.out.2.1, ← HA.out.2.2], hb1.trans (hB3.mono hb1.size)⟩
                · have HA := hide (HNO.out (.inr hk24'))
                  clear HNO HYES HC hrow hk24'
                  go_wp2_with fail
                  refine (LT _).mono ?_; rintro e w2 ⟨rfl, rfl⟩
                  go_wp2
                  go_region
                  all_goals go_wp2
                  all_goals exact bodyPost_ret (v := .tuple #[.string ⟨#[]⟩, .int .i64 at_, .int .i64 17]) (by simp [results, Tryd.results27, go_sem]) rfl ⟨by rw [← HA.out.1, ← HA.out.2.1, ← HA.out.2.2], hb1.trans (hB3.mono hb1.size)⟩
                · have HA := hide (HNO.out (.inr hk24'))
                  clear HNO HYES HC hrow hk24'
                  go_wp2_with fail
                  refine (LT _).mono ?_; rintro e w2 ⟨rfl, rfl⟩
                  go_wp2
                  go_region
                  all_goals go_wp2
                  all_goals exact bodyPost_ret (v := .tuple #[.string ⟨#[]⟩, .int .i64 at_, .int .i64 17]) (by simp [results, Tryd.results27, go_sem]) rfl ⟨by rw [← HA.out.1, ← HA.out.2.1, ← HA.out.2.2], hb1.trans (hB3.mono hb1.size)⟩
              · have hk24I : ¬ (k : Int) ≥ 24 := by omega
                clear hk24'
                rcases hrb2 with ⟨q1, q2⟩ | rfl | rfl | rfl
                · have HY := hide (HYES.out hok.out (by omega))
                  have hbd := ok_bounds hok.out
                  have FO := fun w => fold_any r w (by omega) (by omega)
                  have EN := fun w => Enc.refEncode_yes (foldF r) w (encode_is hbd.1 hbd.2).1
                  rw [(encode_is hbd.1 hbd.2).2] at EN
                  have HEL := hide (enc_len (foldF r) hbd.1 hbd.2)
                  generalize Lib.encodeRune (foldF r) = enc at *
                  generalize foldF r = fr at *
                  clear HNO HYES HC 
                  go_wp2_with fail
                  refine (LT _).mono ?_; rintro e w2 ⟨rfl, rfl⟩
                  go_wp2_with fail
                  refine (FO _).mono ?_; rintro e w3 ⟨rfl, rfl⟩
                  go_wp2_with fail
                  refine (EN _).mono ?_; rintro e w4 ⟨rfl, hb4⟩
                  have hown4 := own_below (hrow.alloc (.cells #[.int .i64 r, .int .i64 at_, .int .i64 sz, .bool false] 97)) hb4
                  have hB4 := hB2.trans (hb4.mono (Nat.le_trans hB2.size (Nat.le_refl _)))
                  clear FO EN LT hb4
                  go_wp2_with (at_builtin; refine Lib.wpList_append_own_string _ rfl _ _ 75 9 rfl w1.heap.size 5 i0 Tryd.underlying75 Tryd.underlying9 hi hz0 hz1 hz2 _ acc.length (bcs acc) rfl hown4 ⟨enc.toArray⟩ rfl ?qa3 ?qb3 ?qc3 ?_; rotate_left 3; intro v' w5 hown' hgrow _)
                  · refine ⟨⟨k + 1, acc ++ enc, by go_num, by omega, by omega, ?_, ⟨HANS.out.trans HY.out, ?_⟩, ?_⟩, by simp [intOf]; omega⟩
                    · rw [List.length_append, bcs_append]
                      rw [strCells_is] at hown'
                      exact hown'
                    · have h1 := HLA.out
                      have h2 := HEL.out
                      rw [List.length_append]; omega
                    · exact hB4.grown hgrow hB4.size (fun j ej => by
                        rcases hown4.2 with ⟨rfl, _⟩ | ⟨g', cap', cur, rfl, hgb, _⟩
                        · cases ej
                        · cases ej; exact hgb)
                  · have h1 := HLA.out
                    have h2 : (⟨enc.toArray⟩ : ByteArray).size ≤ 2 := HEL.out
                    have h3 : maxLen = 9223372036854775807 := rfl
                    omega
                  · have h1 := HLA.out
                    have h2 : (⟨enc.toArray⟩ : ByteArray).size ≤ 2 := HEL.out
                    omega
                  · exact hB4.size
                · have HY := hide (HYES.out hok.out (by omega))
                  have hbd := ok_bounds hok.out
                  have FO := fun w => fold_any 45 w (by omega) (by omega)
                  have EN := fun w => Enc.refEncode_yes (foldF 45) w (encode_is hbd.1 hbd.2).1
                  rw [(encode_is hbd.1 hbd.2).2] at EN
                  have HEL := hide (enc_len (foldF 45) hbd.1 hbd.2)
                  generalize Lib.encodeRune (foldF 45) = enc at *
                  generalize foldF 45 = fr at *
                  clear HNO HYES HC 
                  go_wp2_with fail
                  refine (LT _).mono ?_; rintro e w2 ⟨rfl, rfl⟩
                  go_wp2_with fail
                  refine (FO _).mono ?_; rintro e w3 ⟨rfl, rfl⟩
                  go_wp2_with fail
                  refine (EN _).mono ?_; rintro e w4 ⟨rfl, hb4⟩
                  have hown4 := own_below (hrow.alloc (.cells #[.int .i64 45, .int .i64 at_, .int .i64 sz, .bool false] 97)) hb4
                  have hB4 := hB2.trans (hb4.mono (Nat.le_trans hB2.size (Nat.le_refl _)))
                  clear FO EN LT hb4
                  go_wp2_with (at_builtin; refine Lib.wpList_append_own_string _ rfl _ _ 75 9 rfl w1.heap.size 5 i0 Tryd.underlying75 Tryd.underlying9 hi hz0 hz1 hz2 _ acc.length (bcs acc) rfl hown4 ⟨enc.toArray⟩ rfl ?qa4 ?qb4 ?qc4 ?_; rotate_left 3; intro v' w5 hown' hgrow _)
                  · refine ⟨⟨k + 1, acc ++ enc, by go_num, by omega, by omega, ?_, ⟨HANS.out.trans HY.out, ?_⟩, ?_⟩, by simp [intOf]; omega⟩
                    · rw [List.length_append, bcs_append]
                      rw [strCells_is] at hown'
                      exact hown'
                    · have h1 := HLA.out
                      have h2 := HEL.out
                      rw [List.length_append]; omega
                    · exact hB4.grown hgrow hB4.size (fun j ej => by
                        rcases hown4.2 with ⟨rfl, _⟩ | ⟨g', cap', cur, rfl, hgb, _⟩
                        · cases ej
                        · cases ej; exact hgb)
                  · have h1 := HLA.out
                    have h2 : (⟨enc.toArray⟩ : ByteArray).size ≤ 2 := HEL.out
                    have h3 : maxLen = 9223372036854775807 := rfl
                    omega
                  · have h1 := HLA.out
                    have h2 : (⟨enc.toArray⟩ : ByteArray).size ≤ 2 := HEL.out
                    omega
                  · exact hB4.size
                · have HY := hide (HYES.out hok.out (by omega))
                  have hbd := ok_bounds hok.out
                  have FO := fun w => fold_any 95 w (by omega) (by omega)
                  have EN := fun w => Enc.refEncode_yes (foldF 95) w (encode_is hbd.1 hbd.2).1
                  rw [(encode_is hbd.1 hbd.2).2] at EN
                  have HEL := hide (enc_len (foldF 95) hbd.1 hbd.2)
                  generalize Lib.encodeRune (foldF 95) = enc at *
                  generalize foldF 95 = fr at *
                  clear HNO HYES HC 
                  go_wp2_with fail
                  refine (LT _).mono ?_; rintro e w2 ⟨rfl, rfl⟩
                  go_wp2_with fail
                  refine (FO _).mono ?_; rintro e w3 ⟨rfl, rfl⟩
                  go_wp2_with fail
                  refine (EN _).mono ?_; rintro e w4 ⟨rfl, hb4⟩
                  have hown4 := own_below (hrow.alloc (.cells #[.int .i64 95, .int .i64 at_, .int .i64 sz, .bool false] 97)) hb4
                  have hB4 := hB2.trans (hb4.mono (Nat.le_trans hB2.size (Nat.le_refl _)))
                  clear FO EN LT hb4
                  go_wp2_with (at_builtin; refine Lib.wpList_append_own_string _ rfl _ _ 75 9 rfl w1.heap.size 5 i0 Tryd.underlying75 Tryd.underlying9 hi hz0 hz1 hz2 _ acc.length (bcs acc) rfl hown4 ⟨enc.toArray⟩ rfl ?qa5 ?qb5 ?qc5 ?_; rotate_left 3; intro v' w5 hown' hgrow _)
                  · refine ⟨⟨k + 1, acc ++ enc, by go_num, by omega, by omega, ?_, ⟨HANS.out.trans HY.out, ?_⟩, ?_⟩, by simp [intOf]; omega⟩
                    · rw [List.length_append, bcs_append]
                      rw [strCells_is] at hown'
                      exact hown'
                    · have h1 := HLA.out
                      have h2 := HEL.out
                      rw [List.length_append]; omega
                    · exact hB4.grown hgrow hB4.size (fun j ej => by
                        rcases hown4.2 with ⟨rfl, _⟩ | ⟨g', cap', cur, rfl, hgb, _⟩
                        · cases ej
                        · cases ej; exact hgb)
                  · have h1 := HLA.out
                    have h2 : (⟨enc.toArray⟩ : ByteArray).size ≤ 2 := HEL.out
                    have h3 : maxLen = 9223372036854775807 := rfl
                    omega
                  · have h1 := HLA.out
                    have h2 : (⟨enc.toArray⟩ : ByteArray).size ≤ 2 := HEL.out
                    omega
                  · exact hB4.size
                · have HY := hide (HYES.out hok.out (by omega))
                  have hbd := ok_bounds hok.out
                  have FO := fun w => fold_any 46 w (by omega) (by omega)
                  have EN := fun w => Enc.refEncode_yes (foldF 46) w (encode_is hbd.1 hbd.2).1
                  rw [(encode_is hbd.1 hbd.2).2] at EN
                  have HEL := hide (enc_len (foldF 46) hbd.1 hbd.2)
                  generalize Lib.encodeRune (foldF 46) = enc at *
                  generalize foldF 46 = fr at *
                  clear HNO HYES HC 
                  go_wp2_with fail
                  refine (LT _).mono ?_; rintro e w2 ⟨rfl, rfl⟩
                  go_wp2_with fail
                  refine (FO _).mono ?_; rintro e w3 ⟨rfl, rfl⟩
                  go_wp2_with fail
                  refine (EN _).mono ?_; rintro e w4 ⟨rfl, hb4⟩
                  have hown4 := own_below (hrow.alloc (.cells #[.int .i64 46, .int .i64 at_, .int .i64 sz, .bool false] 97)) hb4
                  have hB4 := hB2.trans (hb4.mono (Nat.le_trans hB2.size (Nat.le_refl _)))
                  clear FO EN LT hb4
                  go_wp2_with (at_builtin; refine Lib.wpList_append_own_string _ rfl _ _ 75 9 rfl w1.heap.size 5 i0 Tryd.underlying75 Tryd.underlying9 hi hz0 hz1 hz2 _ acc.length (bcs acc) rfl hown4 ⟨enc.toArray⟩ rfl ?qa6 ?qb6 ?qc6 ?_; rotate_left 3; intro v' w5 hown' hgrow _)
                  · refine ⟨⟨k + 1, acc ++ enc, by go_num, by omega, by omega, ?_, ⟨HANS.out.trans HY.out, ?_⟩, ?_⟩, by simp [intOf]; omega⟩
                    · rw [List.length_append, bcs_append]
                      rw [strCells_is] at hown'
                      exact hown'
                    · have h1 := HLA.out
                      have h2 := HEL.out
                      rw [List.length_append]; omega
                    · exact hB4.grown hgrow hB4.size (fun j ej => by
                        rcases hown4.2 with ⟨rfl, _⟩ | ⟨g', cap', cur, rfl, hgb, _⟩
                        · cases ej
                        · cases ej; exact hgb)
                  · have h1 := HLA.out
                    have h2 : (⟨enc.toArray⟩ : ByteArray).size ≤ 2 := HEL.out
                    have h3 : maxLen = 9223372036854775807 := rfl
                    omega
                  · have h1 := HLA.out
                    have h2 : (⟨enc.toArray⟩ : ByteArray).size ≤ 2 := HEL.out
                    omega
                  · exact hB4.size
            · have hno : okR r k = false := by
                unfold okR
                have : restB r = false := by simpa using hrb
                rw [hl', this]; simp
              have hn1 : ¬ (48 ≤ r ∧ r ≤ 57) ∧ r ≠ 45 ∧ r ≠ 95 ∧ r ≠ 46 := by
                simp [restB] at hrb
                omega
              obtain ⟨q1, q2, q3, q4⟩ := hn1
              have q2' : (r == 45) = false := by simpa using q2
              have q3' : (r == 95) = false := by simpa using q3
              have q4' : (r == 46) = false := by simpa using q4
              clear hl hl' hrb hkd
              by_cases q5 : 48 ≤ r
              · have q6 : ¬ r ≤ 57 := fun h => q1 ⟨q5, h⟩
                have HA := hide (HNO.out (.inl hno))
                clear HNO HYES HC hrow hno q1
                go_wp2_with fail
                refine (LT _).mono ?_; rintro e w2 ⟨rfl, rfl⟩
                go_wp2
                go_region
                all_goals go_wp2
                all_goals exact bodyPost_ret (v := .tuple #[.string ⟨#[]⟩, .int .i64 at_, .int .i64 17]) (by simp [results, Tryd.results27, go_sem]) rfl ⟨by rw [← HA.out.1, ← HA.out.2.1, ← HA.out.2.2], hb1.trans (hB3.mono hb1.size)⟩
              · skip
                have HA := hide (HNO.out (.inl hno))
                clear HNO HYES HC hrow hno q1
                go_wp2_with fail
                refine (LT _).mono ?_; rintro e w2 ⟨rfl, rfl⟩
                go_wp2
                go_region
                all_goals go_wp2
                all_goals exact bodyPost_ret (v := .tuple #[.string ⟨#[]⟩, .int .i64 at_, .int .i64 17]) (by simp [results, Tryd.results27, go_sem]) rfl ⟨by rw [← HA.out.1, ← HA.out.2.1, ← HA.out.2.2], hb1.trans (hB3.mono hb1.size)⟩
          · have hk00 : k = 0 := by omega
            have hno : okR r k = false := by unfold okR; rw [hl', hk00]; rfl
            clear hl hl' hk00
            have HA := hide (HNO.out (.inl hno))
            clear HNO HYES HC hrow hno
            go_wp2_with fail
            refine (LT _).mono ?_; rintro e w2 ⟨rfl, rfl⟩
            go_wp2
            go_region
            all_goals go_wp2
            all_goals exact bodyPost_ret (v := .tuple #[.string ⟨#[]⟩, .int .i64 at_, .int .i64 17]) (by simp [results, Tryd.results27, go_sem]) rfl ⟨by rw [← HA.out.1, ← HA.out.2.1, ← HA.out.2.2], hb1.trans (hB3.mono hb1.size)⟩
    · have hke : k = N := by omega
      subst hke
      have hdr : PS.drop k = [] := List.drop_of_length_le (by rw [HN.out]; exact Nat.le_refl _)
      have HA : Hid (acc = a ∧ (0 : Int) = p ∧ (0 : Int) = e0) := by
        have := HANS.out
        rw [HG.out.1, hdr, nameG] at this
        simp only [Prod.mk.injEq] at this
        exact this
      have kc := conv_row hrow
      have hge : ¬ (k : Int) < (k : Int) := by omega
      clear HG hdr HC hrow
      go_wp2
      exact bodyPost_ret (v := .tuple #[.string ⟨acc.toArray⟩, .int .i64 0, .int .i64 0]) (by simp [results, Tryd.results27, go_sem]) rfl ⟨by rw [← HA.out.1, ← HA.out.2.1, ← HA.out.2.2], hb1.trans (hB.mono hb1.size)⟩
end Go.Proofs.YtckjededijgjgaaDoor.Rn
