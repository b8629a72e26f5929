import Derived.Test.YtckjededijgjgaaDoorDgA
import Derived.Test.YtckjededijgjgaaDoorDgP
import Derived.Test.YtckjededijgjgaaDoorWdI
namespace Go.Proofs.YtckjededijgjgaaDoor.Hx
open Go.RowKit
open Go.Proofs.YtckjededijgjgaaDoor.Rn (bcs bcs_append conv_row info5)
set_option linter.unusedVariables false

set_option maxHeartbeats 400000 in
theorem hex_any (d : Nat) (h : d < 16) (w : World) :
    Calls Tryd.prog 67 #[.int .i64 (d : Int)] w fun e w' => e = .returned (.int .u8 ((UInt8.ofNat (hexD d)).toNat : Int)) ∧ w' = w := by
  rw [hexD_u8 d h]
  by_cases h1 : d < 10
  · have hI : (d : Int) < 10 := by omega
    have e : (hexD d : Int) = 48 + (d : Int) := by unfold hexD; rw [if_pos h1]; omega
    have E := hide e
    clear e
    go_enter Tryd.func67, Tryd.ntmps67
    go_wp2
    go_ret
    rw [E.out]
    exact ⟨rfl, rfl⟩
  · have hI : ¬ (d : Int) < 10 := by omega
    have hI2 : (d : Int) < 16 := by omega
    have e : (hexD d : Int) = 97 + (d : Int) - 10 := by unfold hexD; rw [if_neg h1]; omega
    have E := hide e
    clear e
    go_enter Tryd.func67, Tryd.ntmps67
    go_wp2
    go_ret
    rw [E.out]
    exact ⟨rfl, rfl⟩

theorem new1b (W : World) (z : Int) (j : Nat) (u : Value) (h : ([.int .u8 z] : List Value)[j]? = some u) : (W.alloc (.cells #[.int .u8 z] 5)).cell? ((⟨W.heap.size, 0, none⟩ : Addr).add j) = some u := by
  rw [Pc.addP, World.cell?_alloc_new, Nat.zero_add]
  simpa using h
theorem row_len {w : World} {base n : Nat} {v : Value} {xs : List Value} (h : w.ownsRow base 5 1 v n xs) : ∃ p c, v = .slice p n c := by
  rcases h.2 with ⟨rfl, h0⟩ | ⟨g, cap, cur, rfl, _⟩
  · exact ⟨none, 0, by rw [h0]⟩
  · exact ⟨_, _, rfl⟩
def lenV : Value → Nat
  | .slice _ n _ => n
  | _ => 0
theorem bcs_len (l : List UInt8) : (bcs l).length = l.length := by simp [Rn.bcs]
theorem row_byte {w : World} {base : Nat} {v : Value} {acc : List UInt8} (h : w.ownsRow base 5 1 v acc.length (bcs acc)) (hp : 0 < acc.length) : ∃ g cap, v = .slice (some ⟨g, 0, none⟩) acc.length cap ∧ g < w.heap.size ∧ ∀ (q : Nat) (hq : q < acc.length), w.cell? ⟨g, q, none⟩ = some (.int .u8 (acc[q].toNat : Int)) := by
  rcases h.2 with ⟨_, h0⟩ | ⟨g, cap, cur, hv, hb, hg, hr⟩
  · omega
  · subst hv
    have hc : ∀ j u, (bcs acc)[j]? = some u → w.cell? ((⟨g, 0, none⟩ : Addr).add j) = some u := h.cells rfl
    have hlt : g < w.heap.size := by
      rcases Nat.lt_or_ge g w.heap.size with h' | h'
      · exact h'
      · rw [Array.getElem?_eq_none h'] at hg; cases hg
    refine ⟨g, cap, rfl, hlt, fun q hq => ?_⟩
    have := hc q (.int .u8 (acc[q].toNat : Int)) (by simp [Rn.bcs, List.getElem?_eq_getElem hq])
    rw [Pc.addP, Nat.zero_add] at this
    exact this
theorem drop_rev (acc : List UInt8) (q : Nat) (hq : q < acc.length) : (acc.drop q).reverse = (acc.drop (q + 1)).reverse ++ [acc[q]] := by
  rw [List.drop_eq_getElem_cons hq, List.reverse_cons]

set_option maxRecDepth 100000 in
set_option maxHeartbeats 1600000 in
theorem refDigits_0 (n : Nat) (hn : n < 18446744073709551616) (w : World) :
    Calls Tryd.prog 31 #[.int .u64 (n : Int), .int .i64 0] w fun e w' => e = .returned (.tuple #[.string ⟨(digF n 0).toArray⟩, .int .i64 0]) ∧ Below w.heap.size w w' := by
  obtain ⟨i0, hi, hz0, hz1, hz2⟩ := info_parts info5
  have hA : digF n 0 = Lib.decDigits n := rfl
  have hst := St.start (b := 10) (mu := 0) (all_dec n (n + 21) (by omega))
  have hl : (Lib.decDigits n).length ≤ 20 := dec_len hn
  rw [hA]
  generalize Lib.decDigits n = A at *
  clear hA
  go_enter Tryd.func31, Tryd.ntmps31
  go_wp2_with fail
  go_loopw [0, 7] (fun nv bv wr => ∃ (M : Int) (acc : List UInt8), nv = .int .u64 M ∧ 0 ≤ M ∧ M < 18446744073709551616 ∧ Hid (St 10 0 A M.toNat acc) ∧ wr.ownsRow w.heap.size 5 1 bv acc.length (bcs acc) ∧ Below w.heap.size w wr) (fun nv bv _ => (intOf nv).toNat + (17 - lenV bv))
  case atStart => exact ⟨n, [], rfl, by omega, by omega, hst, World.ownsRow_nil _ _ _ _, Below.refl _ _⟩
  case round =>
    obtain ⟨M, acc, rfl, hm0, hm, HS, hrow, hB⟩ := hrel
    have hal : acc.length ≤ 20 := by have := HS.out.len; omega
    obtain ⟨p, cp, rfl⟩ := row_len hrow
    by_cases hc : 0 < M.toNat ∨ acc.length = 0 ∨ acc.length < 0
    · have HN := hide (HS.out.step (by omega) (by omega) hc)
      have HX := fun w => hex_any (M.toNat % 10) (by omega) w
      rw [show ((M.toNat % 10 : Nat) : Int) = M % 10 by omega] at HX
      generalize UInt8.ofNat (hexD (M.toNat % 10)) = c at *
      have hcs : (0 < M) ∨ (¬ 0 < M ∧ acc.length = 0) := by omega
      clear hc HS
      rcases hcs with h1 | ⟨h1, h2⟩
      · have hh := h1
        go_wp2_with (first | (go_at_call 67; refine (HX _).mono ?_; rintro e w' ⟨rfl, hw'⟩; obtain rfl := hw'.symm) | (at_builtin; refine wpList_append_own _ rfl _ _ 75 rfl w.heap.size 5 i0 _ 1 1 Tryd.underlying75 hi hz0 hz1 hz2 rfl (by decide) _ _ _ rfl (hrow.alloc _) ⟨wr.heap.size, 0, none⟩ 1 1 [.int .u8 (c.toNat : Int)] rfl rfl (new1b _ _) (by simp [Value.oneCell']) ?qa1 ?qa2 ?qa3 ?_; rotate_left 3; intro v' w1 hown' hgrow _))
        · have hb2 : Below w.heap.size w w1 := (hB.alloc hB.size _).grown hgrow (by have := hB.size; simp; omega) (fun j ej => by
            rcases hrow.2 with ⟨hv0, _⟩ | ⟨g, cap, cur, hv0, hgb, _⟩
            · rw [hv0] at ej; cases ej
            · rw [hv0] at ej; cases ej; exact hgb)
          obtain ⟨p', c', rfl⟩ := row_len hown'
          exact ⟨⟨M / 10, acc ++ [c], by go_num, by omega, by omega, by rw [show (M / 10).toNat = M.toNat / 10 by omega]; exact HN.out, by rw [List.length_append, bcs_append]; exact hown', hb2⟩, by simp [intOf, lenV]; omega⟩
        · unfold maxLen; omega
        · omega
        · have := hB.size; simp; omega
      · have q0 : ((acc.length : Int) == 0) = true := by rw [beq_iff_eq]; omega
        have q9 : acc.length < 17 := by omega
        clear h2
        go_wp2_with (first | (go_at_call 67; refine (HX _).mono ?_; rintro e w' ⟨rfl, hw'⟩; obtain rfl := hw'.symm) | (at_builtin; refine wpList_append_own _ rfl _ _ 75 rfl w.heap.size 5 i0 _ 1 1 Tryd.underlying75 hi hz0 hz1 hz2 rfl (by decide) _ _ _ rfl (hrow.alloc _) ⟨wr.heap.size, 0, none⟩ 1 1 [.int .u8 (c.toNat : Int)] rfl rfl (new1b _ _) (by simp [Value.oneCell']) ?qb1 ?qb2 ?qb3 ?_; rotate_left 3; intro v' w1 hown' hgrow _))
        · have hb2 : Below w.heap.size w w1 := (hB.alloc hB.size _).grown hgrow (by have := hB.size; simp; omega) (fun j ej => by
            rcases hrow.2 with ⟨hv0, _⟩ | ⟨g, cap, cur, hv0, hgb, _⟩
            · rw [hv0] at ej; cases ej
            · rw [hv0] at ej; cases ej; exact hgb)
          obtain ⟨p', c', rfl⟩ := row_len hown'
          exact ⟨⟨M / 10, acc ++ [c], by go_num, by omega, by omega, by rw [show (M / 10).toNat = M.toNat / 10 by omega]; exact HN.out, by rw [List.length_append, bcs_append]; exact hown', hb2⟩, by simp [intOf, lenV]; omega⟩
        · unfold maxLen; omega
        · omega
        · have := hB.size; simp; omega
    · have hd := HS.out.done hc
      have hpos : 0 < acc.length := by omega
      have n1 : ¬ 0 < M := by omega
      have n2 : ((acc.length : Int) == 0) = false := by rw [beq_eq_false_iff_ne]; omega
      have HD := hide hd
      clear hd hc HS hst
      have hrow2 := hrow
      have hB2 := hB
      have HR : Hid (A = acc.reverse) := HD.out
      have hal2 : acc.length ≤ 22 := by omega
      have hpos2 := hpos
      have HL : Hid (acc.length = acc.length) := hide rfl
      obtain ⟨g, gc, hgv, hg, hcell⟩ := row_byte hrow2 hpos2
      obtain ⟨rfl, rfl⟩ : p = some ⟨g, 0, none⟩ ∧ cp = gc := by cases hgv; exact ⟨rfl, rfl⟩
      clear hgv hrow hB HD hal hpos
      rename World => w2
      go_wp2_with fail
      have HC := hide hcell
      clear hcell
      go_loopw [8, 9] (fun b i wr => ∃ q : Nat, i = .int .i64 ((q : Int) - 1) ∧ q ≤ acc.length ∧ wr.ownsRow w2.heap.size 5 1 b (acc.length - q) (bcs (acc.drop q).reverse) ∧ Below w2.heap.size w2 wr) (fun _ i _ => (intOf i + 1).toNat)
      case atStart => exact ⟨acc.length, by have := HL.out; congr 1 <;> omega, Nat.le_refl _, by rw [List.drop_length, Nat.sub_self]; exact World.ownsRow_nil _ _ _ _, Below.refl _ _⟩
      case round =>
        obtain ⟨q, rfl, hq, hrb, hBb⟩ := hrel
        by_cases hq0 : 0 < q
        · obtain ⟨k, rfl⟩ : ∃ k, q = k + 1 := ⟨q - 1, by omega⟩
          have hkl : k < acc.length := by omega
          have hck : wr.cell? ⟨g, k, none⟩ = some (.int .u8 (acc[k].toNat : Int)) := by
            have := HC.out k hkl
            unfold World.cell? at this ⊢
            rw [hBb.block g hg]
            exact this
          have hdr := hide (drop_rev acc k hkl)
          generalize acc[k] = c at *
          have hkI : (k : Int) < (acc.length : Int) := by omega
          have hk0 : (0 : Int) ≤ (k : Int) := by omega
          rw [show ((k + 1 : Nat) : Int) - 1 = (k : Int) by omega]
          go_wp2_with (at_builtin; refine wpList_append_own _ rfl _ _ 75 rfl w2.heap.size 5 i0 _ 1 1 Tryd.underlying75 hi hz0 hz1 hz2 rfl (by decide) _ _ _ rfl (hrb.alloc _) ⟨wr.heap.size, 0, none⟩ 1 1 [.int .u8 (c.toNat : Int)] rfl rfl (new1b _ _) (by simp [Value.oneCell']) ?qz1 ?qz2 ?qz3 ?_; rotate_left 3; intro v3 w3 hown3 hgrow3 _)
          · have hb2 : Below w2.heap.size w2 w3 := (hBb.alloc hBb.size _).grown hgrow3 (by have := hBb.size; simp; omega) (fun j ej => by
              rcases hrb.2 with ⟨hv0, _⟩ | ⟨g', cap', cur', hv0, hgb, _⟩
              · rw [hv0] at ej; cases ej
              · rw [hv0] at ej; cases ej; exact hgb)
            exact ⟨⟨k, by go_num, by omega, by rw [hdr.out, bcs_append, show acc.length - k = acc.length - (k + 1) + 1 by omega]; exact hown3, hb2⟩, by simp [intOf]⟩
          · unfold maxLen; omega
          · omega
          · have := hBb.size; simp; omega
        · obtain rfl : q = 0 := by omega
          have kc := conv_row (acc := acc.reverse) (by rw [List.length_reverse]; exact hrb)
          rw [show ((0 : Nat) : Int) - 1 = -1 by omega]
          go_wp2
          exact bodyPost_ret (v := .tuple #[.string ⟨acc.reverse.toArray⟩, .int .i64 0]) (by simp [results, Tryd.results31, go_sem]) rfl ⟨by rw [← HR.out], hB2.trans (hBb.mono hB2.size)⟩

set_option maxRecDepth 100000 in
set_option maxHeartbeats 1600000 in
theorem refDigits_1 (n : Nat) (hn : n < 18446744073709551616) (w : World) :
    Calls Tryd.prog 31 #[.int .u64 (n : Int), .int .i64 1] w fun e w' => e = .returned (.tuple #[.string ⟨(digF n 1).toArray⟩, .int .i64 0]) ∧ Below w.heap.size w w' := by
  obtain ⟨i0, hi, hz0, hz1, hz2⟩ := info_parts info5
  have hA : digF n 1 = [48, 120] ++ hexL n := rfl
  have hst := St.start (b := 16) (mu := 0) (all_hex n (n + 21) (by omega))
  have hl : (hexL n).length ≤ 20 := by have := hexL_len16 hn; omega
  rw [hA]
  generalize hexL n = A at *
  clear hA
  go_enter Tryd.func31, Tryd.ntmps31
  go_wp2_with fail
  go_loopw [0, 7] (fun nv bv wr => ∃ (M : Int) (acc : List UInt8), nv = .int .u64 M ∧ 0 ≤ M ∧ M < 18446744073709551616 ∧ Hid (St 16 0 A M.toNat acc) ∧ wr.ownsRow w.heap.size 5 1 bv acc.length (bcs acc) ∧ Below w.heap.size w wr) (fun nv bv _ => (intOf nv).toNat + (17 - lenV bv))
  case atStart => exact ⟨n, [], rfl, by omega, by omega, hst, World.ownsRow_nil _ _ _ _, Below.refl _ _⟩
  case round =>
    obtain ⟨M, acc, rfl, hm0, hm, HS, hrow, hB⟩ := hrel
    have hal : acc.length ≤ 20 := by have := HS.out.len; omega
    obtain ⟨p, cp, rfl⟩ := row_len hrow
    by_cases hc : 0 < M.toNat ∨ acc.length = 0 ∨ acc.length < 0
    · have HN := hide (HS.out.step (by omega) (by omega) hc)
      have HX := fun w => hex_any (M.toNat % 16) (by omega) w
      rw [show ((M.toNat % 16 : Nat) : Int) = M % 16 by omega] at HX
      generalize UInt8.ofNat (hexD (M.toNat % 16)) = c at *
      have hcs : (0 < M) ∨ (¬ 0 < M ∧ acc.length = 0) := by omega
      clear hc HS
      rcases hcs with h1 | ⟨h1, h2⟩
      · have hh := h1
        go_wp2_with (first | (go_at_call 67; refine (HX _).mono ?_; rintro e w' ⟨rfl, hw'⟩; obtain rfl := hw'.symm) | (at_builtin; refine wpList_append_own _ rfl _ _ 75 rfl w.heap.size 5 i0 _ 1 1 Tryd.underlying75 hi hz0 hz1 hz2 rfl (by decide) _ _ _ rfl (hrow.alloc _) ⟨wr.heap.size, 0, none⟩ 1 1 [.int .u8 (c.toNat : Int)] rfl rfl (new1b _ _) (by simp [Value.oneCell']) ?qa1 ?qa2 ?qa3 ?_; rotate_left 3; intro v' w1 hown' hgrow _))
        · have hb2 : Below w.heap.size w w1 := (hB.alloc hB.size _).grown hgrow (by have := hB.size; simp; omega) (fun j ej => by
            rcases hrow.2 with ⟨hv0, _⟩ | ⟨g, cap, cur, hv0, hgb, _⟩
            · rw [hv0] at ej; cases ej
            · rw [hv0] at ej; cases ej; exact hgb)
          obtain ⟨p', c', rfl⟩ := row_len hown'
          exact ⟨⟨M / 16, acc ++ [c], by go_num, by omega, by omega, by rw [show (M / 16).toNat = M.toNat / 16 by omega]; exact HN.out, by rw [List.length_append, bcs_append]; exact hown', hb2⟩, by simp [intOf, lenV]; omega⟩
        · unfold maxLen; omega
        · omega
        · have := hB.size; simp; omega
      · have q0 : ((acc.length : Int) == 0) = true := by rw [beq_iff_eq]; omega
        have q9 : acc.length < 17 := by omega
        clear h2
        go_wp2_with (first | (go_at_call 67; refine (HX _).mono ?_; rintro e w' ⟨rfl, hw'⟩; obtain rfl := hw'.symm) | (at_builtin; refine wpList_append_own _ rfl _ _ 75 rfl w.heap.size 5 i0 _ 1 1 Tryd.underlying75 hi hz0 hz1 hz2 rfl (by decide) _ _ _ rfl (hrow.alloc _) ⟨wr.heap.size, 0, none⟩ 1 1 [.int .u8 (c.toNat : Int)] rfl rfl (new1b _ _) (by simp [Value.oneCell']) ?qb1 ?qb2 ?qb3 ?_; rotate_left 3; intro v' w1 hown' hgrow _))
        · have hb2 : Below w.heap.size w w1 := (hB.alloc hB.size _).grown hgrow (by have := hB.size; simp; omega) (fun j ej => by
            rcases hrow.2 with ⟨hv0, _⟩ | ⟨g, cap, cur, hv0, hgb, _⟩
            · rw [hv0] at ej; cases ej
            · rw [hv0] at ej; cases ej; exact hgb)
          obtain ⟨p', c', rfl⟩ := row_len hown'
          exact ⟨⟨M / 16, acc ++ [c], by go_num, by omega, by omega, by rw [show (M / 16).toNat = M.toNat / 16 by omega]; exact HN.out, by rw [List.length_append, bcs_append]; exact hown', hb2⟩, by simp [intOf, lenV]; omega⟩
        · unfold maxLen; omega
        · omega
        · have := hB.size; simp; omega
    · have hd := HS.out.done hc
      have hpos : 0 < acc.length := by omega
      have n1 : ¬ 0 < M := by omega
      have n2 : ((acc.length : Int) == 0) = false := by rw [beq_eq_false_iff_ne]; omega
      have HD := hide hd
      clear hd hc HS hst
      go_wp2_with (first | (at_builtin; refine wpList_append_own _ rfl _ _ 75 rfl w.heap.size 5 i0 _ 1 1 Tryd.underlying75 hi hz0 hz1 hz2 rfl (by decide) _ _ _ rfl (hrow.alloc _) ⟨wr.heap.size, 0, none⟩ 1 1 [.int .u8 120] rfl rfl (new1b _ _) (by simp [Value.oneCell']) ?qx1 ?qx2 ?qx3 ?_; rotate_left 3; intro v1 w1 hown1 hgrow1 _) | (at_builtin; refine wpList_append_own _ rfl _ _ 75 rfl w.heap.size 5 i0 _ 1 1 Tryd.underlying75 hi hz0 hz1 hz2 rfl (by decide) _ _ _ rfl (hown1.alloc _) ⟨w1.heap.size, 0, none⟩ 1 1 [.int .u8 48] rfl rfl (new1b _ _) (by simp [Value.oneCell']) ?qy1 ?qy2 ?qy3 ?_; rotate_left 3; intro v2 w2 hown2 hgrow2 _; obtain ⟨p2, c2, rfl⟩ := row_len hown2))
      case qx1 => unfold maxLen; omega
      case qx2 => omega
      case qx3 => have := hB.size; simp; omega
      case qy1 => unfold maxLen; omega
      case qy2 => omega
      case qy3 => have := hgrow1.size; have := hB.size; simp at *; omega
      have hB1 : Below w.heap.size w w1 := (hB.alloc hB.size _).grown hgrow1 (by have := hB.size; simp; omega) (fun j ej => by
            rcases hrow.2 with ⟨hv0, _⟩ | ⟨g, cap, cur, hv0, hgb, _⟩
            · rw [hv0] at ej; cases ej
            · rw [hv0] at ej; cases ej; exact hgb)
      have hB2 : Below w.heap.size w w2 := (hB1.alloc hB1.size _).grown hgrow2 (by have := hB1.size; simp; omega) (fun j ej => by
            rcases hown1.2 with ⟨hv0, _⟩ | ⟨g, cap, cur, hv0, hgb, _⟩
            · rw [hv0] at ej; cases ej
            · rw [hv0] at ej; cases ej; exact hgb)
      have hrow2 : w2.ownsRow w.heap.size 5 1 (.slice p2 (acc.length + 1 + 1) c2) (acc ++ [120, 48]).length (bcs (acc ++ [120, 48])) := by
        rw [show acc ++ [120, 48] = (acc ++ [120]) ++ [48] by simp, bcs_append, bcs_append, List.length_append, List.length_append]
        exact hown2
      have HR : Hid (48 :: 120 :: A = (acc ++ [120, 48]).reverse) := hide (by rw [HD.out]; simp)
      have hal2 : (acc ++ [120, 48]).length ≤ 22 := by simp; omega
      have hpos2 : 0 < (acc ++ [120, 48]).length := by simp
      have hlb : acc.length + 1 + 1 = (acc ++ [120, 48]).length := by simp
      clear hrow hown1 hown2 hgrow1 hgrow2 hB hB1 HD hal hpos n1 n2
      rw [hlb] at hrow2 ⊢
      have HL := hide hlb
      clear hlb
      generalize acc ++ [120, 48] = bk at *
      obtain ⟨g, gc, hgv, hg, hcell⟩ := row_byte hrow2 hpos2
      obtain ⟨rfl, rfl⟩ : p2 = some ⟨g, 0, none⟩ ∧ c2 = gc := by cases hgv; exact ⟨rfl, rfl⟩
      clear hgv
      have HC := hide hcell
      clear hcell
      go_loopw [8, 9] (fun b i wr => ∃ q : Nat, i = .int .i64 ((q : Int) - 1) ∧ q ≤ bk.length ∧ wr.ownsRow w2.heap.size 5 1 b (bk.length - q) (bcs (bk.drop q).reverse) ∧ Below w2.heap.size w2 wr) (fun _ i _ => (intOf i + 1).toNat)
      case atStart => exact ⟨bk.length, by have := HL.out; congr 1 <;> omega, Nat.le_refl _, by rw [List.drop_length, Nat.sub_self]; exact World.ownsRow_nil _ _ _ _, Below.refl _ _⟩
      case round =>
        obtain ⟨q, rfl, hq, hrb, hBb⟩ := hrel
        by_cases hq0 : 0 < q
        · obtain ⟨k, rfl⟩ : ∃ k, q = k + 1 := ⟨q - 1, by omega⟩
          have hkl : k < bk.length := by omega
          have hck : wr.cell? ⟨g, k, none⟩ = some (.int .u8 (bk[k].toNat : Int)) := by
            have := HC.out k hkl
            unfold World.cell? at this ⊢
            rw [hBb.block g hg]
            exact this
          have hdr := hide (drop_rev bk k hkl)
          generalize bk[k] = c at *
          have hkI : (k : Int) < (bk.length : Int) := by omega
          have hk0 : (0 : Int) ≤ (k : Int) := by omega
          rw [show ((k + 1 : Nat) : Int) - 1 = (k : Int) by omega]
          go_wp2_with (at_builtin; refine wpList_append_own _ rfl _ _ 75 rfl w2.heap.size 5 i0 _ 1 1 Tryd.underlying75 hi hz0 hz1 hz2 rfl (by decide) _ _ _ rfl (hrb.alloc _) ⟨wr.heap.size, 0, none⟩ 1 1 [.int .u8 (c.toNat : Int)] rfl rfl (new1b _ _) (by simp [Value.oneCell']) ?qz1 ?qz2 ?qz3 ?_; rotate_left 3; intro v3 w3 hown3 hgrow3 _)
          · have hb2 : Below w2.heap.size w2 w3 := (hBb.alloc hBb.size _).grown hgrow3 (by have := hBb.size; simp; omega) (fun j ej => by
              rcases hrb.2 with ⟨hv0, _⟩ | ⟨g', cap', cur', hv0, hgb, _⟩
              · rw [hv0] at ej; cases ej
              · rw [hv0] at ej; cases ej; exact hgb)
            exact ⟨⟨k, by go_num, by omega, by rw [hdr.out, bcs_append, show bk.length - k = bk.length - (k + 1) + 1 by omega]; exact hown3, hb2⟩, by simp [intOf]⟩
          · unfold maxLen; omega
          · omega
          · have := hBb.size; simp; omega
        · obtain rfl : q = 0 := by omega
          have kc := conv_row (acc := bk.reverse) (by rw [List.length_reverse]; exact hrb)
          rw [show ((0 : Nat) : Int) - 1 = -1 by omega]
          go_wp2
          exact bodyPost_ret (v := .tuple #[.string ⟨bk.reverse.toArray⟩, .int .i64 0]) (by simp [results, Tryd.results31, go_sem]) rfl ⟨by rw [← HR.out], hB2.trans (hBb.mono hB2.size)⟩

set_option maxRecDepth 100000 in
set_option maxHeartbeats 1600000 in
theorem refDigits_2 (n : Nat) (hn : n < 18446744073709551616) (w : World) :
    Calls Tryd.prog 31 #[.int .u64 (n : Int), .int .i64 2] w fun e w' => e = .returned (.tuple #[.string ⟨(digF n 2).toArray⟩, .int .i64 0]) ∧ Below w.heap.size w w' := by
  obtain ⟨i0, hi, hz0, hz1, hz2⟩ := info_parts info5
  have hA : digF n 2 = [48, 120] ++ (List.replicate (16 - (hexL n).length) 48 ++ hexL n) := List.append_assoc _ _ _
  have hst := St.start (b := 16) (mu := 16) (all_pad n (n + 22) hn (by omega))
  have hl : (List.replicate (16 - (hexL n).length) 48 ++ hexL n).length ≤ 20 := by have := hexL_len16 hn; simp; omega
  rw [hA]
  generalize List.replicate (16 - (hexL n).length) 48 ++ hexL n = A at *
  clear hA
  go_enter Tryd.func31, Tryd.ntmps31
  go_wp2_with fail
  go_loopw [0, 7] (fun nv bv wr => ∃ (M : Int) (acc : List UInt8), nv = .int .u64 M ∧ 0 ≤ M ∧ M < 18446744073709551616 ∧ Hid (St 16 16 A M.toNat acc) ∧ wr.ownsRow w.heap.size 5 1 bv acc.length (bcs acc) ∧ Below w.heap.size w wr) (fun nv bv _ => (intOf nv).toNat + (17 - lenV bv))
  case atStart => exact ⟨n, [], rfl, by omega, by omega, hst, World.ownsRow_nil _ _ _ _, Below.refl _ _⟩
  case round =>
    obtain ⟨M, acc, rfl, hm0, hm, HS, hrow, hB⟩ := hrel
    have hal : acc.length ≤ 20 := by have := HS.out.len; omega
    obtain ⟨p, cp, rfl⟩ := row_len hrow
    by_cases hc : 0 < M.toNat ∨ acc.length = 0 ∨ acc.length < 16
    · have HN := hide (HS.out.step (by omega) (by omega) hc)
      have HX := fun w => hex_any (M.toNat % 16) (by omega) w
      rw [show ((M.toNat % 16 : Nat) : Int) = M % 16 by omega] at HX
      generalize UInt8.ofNat (hexD (M.toNat % 16)) = c at *
      have hcs : (0 < M) ∨ (¬ 0 < M ∧ acc.length = 0) ∨ (¬ 0 < M ∧ ¬ acc.length = 0 ∧ acc.length < 16) := by omega
      clear hc HS
      rcases hcs with h1 | ⟨h1, h2⟩ | ⟨h1, h2, h3⟩
      · have hh := h1
        go_wp2_with (first | (go_at_call 67; refine (HX _).mono ?_; rintro e w' ⟨rfl, hw'⟩; obtain rfl := hw'.symm) | (at_builtin; refine wpList_append_own _ rfl _ _ 75 rfl w.heap.size 5 i0 _ 1 1 Tryd.underlying75 hi hz0 hz1 hz2 rfl (by decide) _ _ _ rfl (hrow.alloc _) ⟨wr.heap.size, 0, none⟩ 1 1 [.int .u8 (c.toNat : Int)] rfl rfl (new1b _ _) (by simp [Value.oneCell']) ?qa1 ?qa2 ?qa3 ?_; rotate_left 3; intro v' w1 hown' hgrow _))
        · have hb2 : Below w.heap.size w w1 := (hB.alloc hB.size _).grown hgrow (by have := hB.size; simp; omega) (fun j ej => by
            rcases hrow.2 with ⟨hv0, _⟩ | ⟨g, cap, cur, hv0, hgb, _⟩
            · rw [hv0] at ej; cases ej
            · rw [hv0] at ej; cases ej; exact hgb)
          obtain ⟨p', c', rfl⟩ := row_len hown'
          exact ⟨⟨M / 16, acc ++ [c], by go_num, by omega, by omega, by rw [show (M / 16).toNat = M.toNat / 16 by omega]; exact HN.out, by rw [List.length_append, bcs_append]; exact hown', hb2⟩, by simp [intOf, lenV]; omega⟩
        · unfold maxLen; omega
        · omega
        · have := hB.size; simp; omega
      · have q0 : ((acc.length : Int) == 0) = true := by rw [beq_iff_eq]; omega
        have q9 : acc.length < 17 := by omega
        clear h2
        go_wp2_with (first | (go_at_call 67; refine (HX _).mono ?_; rintro e w' ⟨rfl, hw'⟩; obtain rfl := hw'.symm) | (at_builtin; refine wpList_append_own _ rfl _ _ 75 rfl w.heap.size 5 i0 _ 1 1 Tryd.underlying75 hi hz0 hz1 hz2 rfl (by decide) _ _ _ rfl (hrow.alloc _) ⟨wr.heap.size, 0, none⟩ 1 1 [.int .u8 (c.toNat : Int)] rfl rfl (new1b _ _) (by simp [Value.oneCell']) ?qb1 ?qb2 ?qb3 ?_; rotate_left 3; intro v' w1 hown' hgrow _))
        · have hb2 : Below w.heap.size w w1 := (hB.alloc hB.size _).grown hgrow (by have := hB.size; simp; omega) (fun j ej => by
            rcases hrow.2 with ⟨hv0, _⟩ | ⟨g, cap, cur, hv0, hgb, _⟩
            · rw [hv0] at ej; cases ej
            · rw [hv0] at ej; cases ej; exact hgb)
          obtain ⟨p', c', rfl⟩ := row_len hown'
          exact ⟨⟨M / 16, acc ++ [c], by go_num, by omega, by omega, by rw [show (M / 16).toNat = M.toNat / 16 by omega]; exact HN.out, by rw [List.length_append, bcs_append]; exact hown', hb2⟩, by simp [intOf, lenV]; omega⟩
        · unfold maxLen; omega
        · omega
        · have := hB.size; simp; omega
      · have q0 : ((acc.length : Int) == 0) = false := by rw [beq_eq_false_iff_ne]; omega
        have q1 : (acc.length : Int) < 16 := by omega
        clear h2
        go_wp2_with (first | (go_at_call 67; refine (HX _).mono ?_; rintro e w' ⟨rfl, hw'⟩; obtain rfl := hw'.symm) | (at_builtin; refine wpList_append_own _ rfl _ _ 75 rfl w.heap.size 5 i0 _ 1 1 Tryd.underlying75 hi hz0 hz1 hz2 rfl (by decide) _ _ _ rfl (hrow.alloc _) ⟨wr.heap.size, 0, none⟩ 1 1 [.int .u8 (c.toNat : Int)] rfl rfl (new1b _ _) (by simp [Value.oneCell']) ?qc1 ?qc2 ?qc3 ?_; rotate_left 3; intro v' w1 hown' hgrow _))
        · have hb2 : Below w.heap.size w w1 := (hB.alloc hB.size _).grown hgrow (by have := hB.size; simp; omega) (fun j ej => by
            rcases hrow.2 with ⟨hv0, _⟩ | ⟨g, cap, cur, hv0, hgb, _⟩
            · rw [hv0] at ej; cases ej
            · rw [hv0] at ej; cases ej; exact hgb)
          obtain ⟨p', c', rfl⟩ := row_len hown'
          exact ⟨⟨M / 16, acc ++ [c], by go_num, by omega, by omega, by rw [show (M / 16).toNat = M.toNat / 16 by omega]; exact HN.out, by rw [List.length_append, bcs_append]; exact hown', hb2⟩, by simp [intOf, lenV]; omega⟩
        · unfold maxLen; omega
        · omega
        · have := hB.size; simp; omega
    · have hd := HS.out.done hc
      have hpos : 0 < acc.length := by omega
      have n1 : ¬ 0 < M := by omega
      have n2 : ((acc.length : Int) == 0) = false := by rw [beq_eq_false_iff_ne]; omega
      have n3 : ¬ (acc.length : Int) < 16 := by omega
      have HD := hide hd
      clear hd hc HS hst
      go_wp2_with (first | (at_builtin; refine wpList_append_own _ rfl _ _ 75 rfl w.heap.size 5 i0 _ 1 1 Tryd.underlying75 hi hz0 hz1 hz2 rfl (by decide) _ _ _ rfl (hrow.alloc _) ⟨wr.heap.size, 0, none⟩ 1 1 [.int .u8 120] rfl rfl (new1b _ _) (by simp [Value.oneCell']) ?qx1 ?qx2 ?qx3 ?_; rotate_left 3; intro v1 w1 hown1 hgrow1 _) | (at_builtin; refine wpList_append_own _ rfl _ _ 75 rfl w.heap.size 5 i0 _ 1 1 Tryd.underlying75 hi hz0 hz1 hz2 rfl (by decide) _ _ _ rfl (hown1.alloc _) ⟨w1.heap.size, 0, none⟩ 1 1 [.int .u8 48] rfl rfl (new1b _ _) (by simp [Value.oneCell']) ?qy1 ?qy2 ?qy3 ?_; rotate_left 3; intro v2 w2 hown2 hgrow2 _; obtain ⟨p2, c2, rfl⟩ := row_len hown2))
      case qx1 => unfold maxLen; omega
      case qx2 => omega
      case qx3 => have := hB.size; simp; omega
      case qy1 => unfold maxLen; omega
      case qy2 => omega
      case qy3 => have := hgrow1.size; have := hB.size; simp at *; omega
      have hB1 : Below w.heap.size w w1 := (hB.alloc hB.size _).grown hgrow1 (by have := hB.size; simp; omega) (fun j ej => by
            rcases hrow.2 with ⟨hv0, _⟩ | ⟨g, cap, cur, hv0, hgb, _⟩
            · rw [hv0] at ej; cases ej
            · rw [hv0] at ej; cases ej; exact hgb)
      have hB2 : Below w.heap.size w w2 := (hB1.alloc hB1.size _).grown hgrow2 (by have := hB1.size; simp; omega) (fun j ej => by
            rcases hown1.2 with ⟨hv0, _⟩ | ⟨g, cap, cur, hv0, hgb, _⟩
            · rw [hv0] at ej; cases ej
            · rw [hv0] at ej; cases ej; exact hgb)
      have hrow2 : w2.ownsRow w.heap.size 5 1 (.slice p2 (acc.length + 1 + 1) c2) (acc ++ [120, 48]).length (bcs (acc ++ [120, 48])) := by
        rw [show acc ++ [120, 48] = (acc ++ [120]) ++ [48] by simp, bcs_append, bcs_append, List.length_append, List.length_append]
        exact hown2
      have HR : Hid (48 :: 120 :: A = (acc ++ [120, 48]).reverse) := hide (by rw [HD.out]; simp)
      have hal2 : (acc ++ [120, 48]).length ≤ 22 := by simp; omega
      have hpos2 : 0 < (acc ++ [120, 48]).length := by simp
      have hlb : acc.length + 1 + 1 = (acc ++ [120, 48]).length := by simp
      clear hrow hown1 hown2 hgrow1 hgrow2 hB hB1 HD hal hpos n1 n2
      rw [hlb] at hrow2 ⊢
      have HL := hide hlb
      clear hlb
      generalize acc ++ [120, 48] = bk at *
      obtain ⟨g, gc, hgv, hg, hcell⟩ := row_byte hrow2 hpos2
      obtain ⟨rfl, rfl⟩ : p2 = some ⟨g, 0, none⟩ ∧ c2 = gc := by cases hgv; exact ⟨rfl, rfl⟩
      clear hgv
      have HC := hide hcell
      clear hcell
      go_loopw [8, 9] (fun b i wr => ∃ q : Nat, i = .int .i64 ((q : Int) - 1) ∧ q ≤ bk.length ∧ wr.ownsRow w2.heap.size 5 1 b (bk.length - q) (bcs (bk.drop q).reverse) ∧ Below w2.heap.size w2 wr) (fun _ i _ => (intOf i + 1).toNat)
      case atStart => exact ⟨bk.length, by have := HL.out; congr 1 <;> omega, Nat.le_refl _, by rw [List.drop_length, Nat.sub_self]; exact World.ownsRow_nil _ _ _ _, Below.refl _ _⟩
      case round =>
        obtain ⟨q, rfl, hq, hrb, hBb⟩ := hrel
        by_cases hq0 : 0 < q
        · obtain ⟨k, rfl⟩ : ∃ k, q = k + 1 := ⟨q - 1, by omega⟩
          have hkl : k < bk.length := by omega
          have hck : wr.cell? ⟨g, k, none⟩ = some (.int .u8 (bk[k].toNat : Int)) := by
            have := HC.out k hkl
            unfold World.cell? at this ⊢
            rw [hBb.block g hg]
            exact this
          have hdr := hide (drop_rev bk k hkl)
          generalize bk[k] = c at *
          have hkI : (k : Int) < (bk.length : Int) := by omega
          have hk0 : (0 : Int) ≤ (k : Int) := by omega
          rw [show ((k + 1 : Nat) : Int) - 1 = (k : Int) by omega]
          go_wp2_with (at_builtin; refine wpList_append_own _ rfl _ _ 75 rfl w2.heap.size 5 i0 _ 1 1 Tryd.underlying75 hi hz0 hz1 hz2 rfl (by decide) _ _ _ rfl (hrb.alloc _) ⟨wr.heap.size, 0, none⟩ 1 1 [.int .u8 (c.toNat : Int)] rfl rfl (new1b _ _) (by simp [Value.oneCell']) ?qz1 ?qz2 ?qz3 ?_; rotate_left 3; intro v3 w3 hown3 hgrow3 _)
          · have hb2 : Below w2.heap.size w2 w3 := (hBb.alloc hBb.size _).grown hgrow3 (by have := hBb.size; simp; omega) (fun j ej => by
              rcases hrb.2 with ⟨hv0, _⟩ | ⟨g', cap', cur', hv0, hgb, _⟩
              · rw [hv0] at ej; cases ej
              · rw [hv0] at ej; cases ej; exact hgb)
            exact ⟨⟨k, by go_num, by omega, by rw [hdr.out, bcs_append, show bk.length - k = bk.length - (k + 1) + 1 by omega]; exact hown3, hb2⟩, by simp [intOf]⟩
          · unfold maxLen; omega
          · omega
          · have := hBb.size; simp; omega
        · obtain rfl : q = 0 := by omega
          have kc := conv_row (acc := bk.reverse) (by rw [List.length_reverse]; exact hrb)
          rw [show ((0 : Nat) : Int) - 1 = -1 by omega]
          go_wp2
          exact bodyPost_ret (v := .tuple #[.string ⟨bk.reverse.toArray⟩, .int .i64 0]) (by simp [results, Tryd.results31, go_sem]) rfl ⟨by rw [← HR.out], hB2.trans (hBb.mono hB2.size)⟩
end Go.Proofs.YtckjededijgjgaaDoor.Hx
