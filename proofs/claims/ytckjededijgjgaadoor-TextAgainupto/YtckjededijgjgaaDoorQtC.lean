import Derived.Test.YtckjededijgjgaaDoorQtB
import Derived.Test.YtckjededijgjgaaDoorDgB
import Derived.Test.YtckjededijgjgaaDoorEncC
import Derived.RegionTactic
import Derived.Deep.RegionHeld
import Derived.BigQuiet
import Derived.Deep.QuietTactic
namespace Go.Proofs.YtckjededijgjgaaDoor.Qt
open Go.RowKit
open Go.Proofs.YtckjededijgjgaaDoor.Pc (P4 pieces Ofs pcF)
open Go.Proofs.YtckjededijgjgaaDoor.Hx (hexL hexD hex_any St hexL_len hexL_small hexL_big all_hex)
open Go.Proofs.YtckjededijgjgaaDoor.Enc (plainF hidB hidden_any)
set_option linter.unusedVariables false

theorem of_broken {s : ByteArray} {x : P4} (h : Ofs s x) (hb : x.2.2.2 = true) : 128 ≤ x.1 ∧ x.1 ≤ 255 := by
  obtain ⟨pos, hp, rfl⟩ := h
  rcases Pc.pc_cases s pos hp with ⟨_, h2, h3⟩ | ⟨r, k, h2, _, _⟩
  · rw [h2]
    have := s[pos].toNat_lt
    simp only
    omega
  · rw [h2] at hb; cases hb
theorem conv1 (W : World) (t : TypeId) (c : UInt8) (cap : Nat) : (convert 75 9 (.slice (some ⟨W.heap.size, 0, none⟩) 1 cap)).run Tryd.prog (W.alloc (.cells #[.int .u8 (c.toNat : Int)] t)) = .ok (.string ⟨#[c]⟩) (W.alloc (.cells #[.int .u8 (c.toNat : Int)] t)) := by
  have h := run_convert_bytes_back (P := Tryd.prog) (W.alloc (.cells #[.int .u8 (c.toNat : Int)] t)) 75 9 5 ⟨W.heap.size, 0, none⟩ cap [c] Tryd.underlying75 Tryd.underlying5 Tryd.underlying9 (fun j hj => by
    have : j = 0 := by simpa using hj
    subst this
    rw [Pc.addP, World.cell?_alloc_new]
    rfl)
  exact h
theorem conv4 (W : World) (t : TypeId) (a b c d : UInt8) (cap : Nat) : (convert 75 9 (.slice (some ⟨W.heap.size, 0, none⟩) 4 cap)).run Tryd.prog (W.alloc (.cells #[.int .u8 (a.toNat : Int), .int .u8 (b.toNat : Int), .int .u8 (c.toNat : Int), .int .u8 (d.toNat : Int)] t)).drew = .ok (.string ⟨#[a, b, c, d]⟩) (W.alloc (.cells #[.int .u8 (a.toNat : Int), .int .u8 (b.toNat : Int), .int .u8 (c.toNat : Int), .int .u8 (d.toNat : Int)] t)).drew := by
  have h := run_convert_bytes_back (P := Tryd.prog) (W.alloc (.cells #[.int .u8 (a.toNat : Int), .int .u8 (b.toNat : Int), .int .u8 (c.toNat : Int), .int .u8 (d.toNat : Int)] t)).drew 75 9 5 ⟨W.heap.size, 0, none⟩ cap [a, b, c, d] Tryd.underlying75 Tryd.underlying5 Tryd.underlying9 (fun j hj => by
    have : j = 0 ∨ j = 1 ∨ j = 2 ∨ j = 3 := by simp at hj; omega
    rcases this with rfl | rfl | rfl | rfl <;> (rw [Pc.addP]; exact World.cell?_alloc_new _ _ _ _))
  exact h
theorem hex_two (n : Nat) (h1 : 128 ≤ n) (h2 : n ≤ 255) : hexL n = [UInt8.ofNat (hexD (n / 16)), UInt8.ofNat (hexD (n % 16))] := by
  rw [hexL_big (by omega), hexL_small (by omega)]
  rfl

set_option maxRecDepth 100000 in
set_option maxHeartbeats 1000000 in
theorem printed_broken' (s : ByteArray) (R : Int) (h1 : 128 ≤ R) (h2 : R ≤ 255) (pl sz : Int) (w : World) (a b : UInt8) (D1 D2 : Int) (e1 : IntKind.i64.wrap (R.tdiv 16) = D1) (e2 : R.tmod 16 = D2)
    (X1 : ∀ w, Calls Tryd.prog 67 #[.int .i64 D1] w fun e w' => e = .returned (.int .u8 (a.toNat : Int)) ∧ w' = w)
    (X2 : ∀ w, Calls Tryd.prog 67 #[.int .i64 D2] w fun e w' => e = .returned (.int .u8 (b.toNat : Int)) ∧ w' = w)
    (CV : ∀ W : World, (convert 75 9 (.slice (some ⟨W.heap.size, 0, none⟩) 4 4)).run Tryd.prog (W.alloc (.cells #[.int .u8 92, .int .u8 120, .int .u8 (a.toNat : Int), .int .u8 (b.toNat : Int)] 5)).drew = .ok (.string ⟨#[92, 120, a, b]⟩) (W.alloc (.cells #[.int .u8 92, .int .u8 120, .int .u8 (a.toNat : Int), .int .u8 (b.toNat : Int)] 5)).drew) :
    Calls Tryd.prog 57 #[.string s, .agg #[.int .i64 R, .int .i64 pl, .int .i64 sz, .bool true]] w fun e w' => e = .returned (.string ⟨#[92, 120, a, b]⟩) ∧ Below w.heap.size w w' := by
  have hB := (Below.refl w.heap.size w).alloc (Nat.le_refl _) (.cells #[.int .i64 R, .int .i64 pl, .int .i64 sz, .bool true] 97)
  generalize (a.toNat : Int) = az at *
  generalize (b.toNat : Int) = bz at *
  generalize (⟨#[92, 120, a, b]⟩ : ByteArray) = OUT at *
  go_enter Tryd.func57, Tryd.ntmps57
  go_wp2_with fail
  generalize hWA : w.alloc (.cells #[.int .i64 R, .int .i64 pl, .int .i64 sz, .bool true] 97) = WA at *
  have c0 : WA.cell? ⟨w.heap.size, 0, none⟩ = some (.int .i64 R) := by rw [← hWA, World.cell?_alloc_new]; rfl
  clear hWA
  go_region_held (fun w' => w'.cell? ⟨w.heap.size, 0, none⟩ = some (.int .i64 R)) (go_keep) (first | (go_at_call_of 67 D1; refine (X1 _).mono ?_; rintro e w' ⟨rfl, rfl⟩) | (go_at_call_of 67 D2; refine (X2 _).mono ?_; rintro e w' ⟨rfl, rfl⟩))
  all_goals go_wp2
  all_goals exact bodyPost_ret (v := .string OUT) (by simp [results, Tryd.results57, go_sem]) rfl ⟨rfl, (hB.alloc hB.size _).drew⟩

theorem printed_broken (s : ByteArray) (n : Nat) (h1 : 128 ≤ n) (h2 : n ≤ 255) (pl sz : Int) (w : World) :
    Calls Tryd.prog 57 #[.string s, .agg #[.int .i64 (n : Int), .int .i64 pl, .int .i64 sz, .bool true]] w fun e w' => e = .returned (.string ⟨([92, 120] ++ hexL n).toArray⟩) ∧ Below w.heap.size w w' := by
  rw [hex_two n h1 h2]
  have X1 := fun w => hex_any (n / 16) (by omega) w
  have X2 := fun w => hex_any (n % 16) (by omega) w
  have e1 : IntKind.i64.wrap ((n : Int).tdiv 16) = ((n / 16 : Nat) : Int) := by
    rw [Int.tdiv_eq_ediv_of_nonneg (by omega), IntKind.wrap_i64]; omega
  have e2 : (n : Int).tmod 16 = ((n % 16 : Nat) : Int) := by
    rw [Int.tmod_eq_emod_of_nonneg (by omega)]; omega
  exact printed_broken' s (n : Int) (by omega) (by omega) pl sz w _ _ _ _ e1 e2 X1 X2 (fun W => conv4 W 5 92 120 _ _ 4)

set_option maxRecDepth 100000 in
set_option maxHeartbeats 1000000 in
theorem printed_const (s : ByteArray) (r : Int) (out : ByteArray) (h : (r = 34 ∧ out = ⟨#[92, 34]⟩) ∨ (r = 92 ∧ out = ⟨#[92, 92]⟩) ∨ (r = 10 ∧ out = ⟨#[92, 110]⟩) ∨ (r = 13 ∧ out = ⟨#[92, 114]⟩) ∨ (r = 9 ∧ out = ⟨#[92, 116]⟩)) (pl sz : Int) (w : World) :
    Calls Tryd.prog 57 #[.string s, .agg #[.int .i64 r, .int .i64 pl, .int .i64 sz, .bool false]] w fun e w' => e = .returned (.string out) ∧ Below w.heap.size w w' := by
  have hB := (Below.refl w.heap.size w).alloc (Nat.le_refl _) (.cells #[.int .i64 r, .int .i64 pl, .int .i64 sz, .bool false] 97)
  rcases h with ⟨rfl, rfl⟩ | ⟨rfl, rfl⟩ | ⟨rfl, rfl⟩ | ⟨rfl, rfl⟩ | ⟨rfl, rfl⟩
  all_goals
    go_enter Tryd.func57, Tryd.ntmps57
    go_wp2
    go_ret
    exact ⟨rfl, hB⟩

set_option maxRecDepth 100000 in
set_option maxHeartbeats 1000000 in
theorem printed_own (s : ByteArray) (hs : s.size ≤ 1048576) (r : Int) (h1 : (r == 34) = false) (h2 : (r == 92) = false) (h3 : (r == 10) = false) (h4 : (r == 13) = false) (h5 : (r == 9) = false) (hh : hidB r = false) (pos k : Nat) (hpk : pos + k ≤ s.size) (w : World) :
    Calls Tryd.prog 57 #[.string s, .agg #[.int .i64 r, .int .i64 (pos : Int), .int .i64 (k : Int), .bool false]] w fun e w' => e = .returned (.string (s.extract pos (pos + k))) ∧ Below w.heap.size w w' := by
  have hB := (Below.refl w.heap.size w).alloc (Nat.le_refl _) (.cells #[.int .i64 r, .int .i64 (pos : Int), .int .i64 (k : Int), .bool false] 97)
  have H := fun w => hidden_any r w
  rw [hh] at H
  obtain ⟨P, hP⟩ : ∃ P : Int, (pos : Int) = P := ⟨_, rfl⟩
  obtain ⟨K, hK⟩ : ∃ K : Int, (k : Int) = K := ⟨_, rfl⟩
  have hsl0 : ∀ W, (Instr.slice 9 (.string s) (some (.int .i64 P)) (some (.int .i64 (P + K))) none).run Tryd.prog W = .ok (.string (s.extract pos (pos + k))) W := fun W => by
    rw [run_slice_string W 9 s .i64 .i64 _ _ Tryd.underlying9 (by omega) (by omega) (by omega), show P.toNat = pos by omega, show (P + K).toNat = pos + k by omega]
  have hsl : ∀ W, (Instr.slice 9 (.string s) (some (.int .i64 P)) (some (.int .i64 (IntKind.i64.wrap (P + K)))) none).run Tryd.prog W = .ok (.string (s.extract pos (pos + k))) W := fun W => by
    rw [show IntKind.i64.wrap (P + K) = P + K by rw [IntKind.wrap_i64]; omega]; exact hsl0 W
  have hP0 : 0 ≤ P := by omega
  have hPK : P + K ≤ 1048576 := by omega
  have hK0 : 0 ≤ K := by omega
  rw [hP, hK] at hB ⊢
  generalize s.extract pos (pos + k) = OUT at *
  clear hP hK hpk
  go_enter Tryd.func57, Tryd.ntmps57
  go_wp2_with fail
  refine (H _).mono ?_; rintro e w' ⟨rfl, rfl⟩
  go_wp2
  go_ret
  exact ⟨rfl, hB⟩

theorem rev_cat (acc : List UInt8) (c : UInt8) : (⟨#[c]⟩ : ByteArray) ++ ⟨acc.reverse.toArray⟩ = ⟨(acc ++ [c]).reverse.toArray⟩ := by
  apply ByteArray.ext
  simp [ByteArray.data_append]
theorem rev_size (acc : List UInt8) : (⟨acc.reverse.toArray⟩ : ByteArray).size = acc.length := by
  show acc.reverse.toArray.size = _
  simp
theorem rev_empty (acc : List UInt8) : (⟨acc.reverse.toArray⟩ : ByteArray).toList.isEmpty = decide (acc.length = 0) := by
  rw [ByteArray.toList_eq]
  cases acc with
  | nil => rfl
  | cons a t => simp

set_option maxRecDepth 100000 in
set_option maxHeartbeats 1000000 in
theorem printed_hid (s : ByteArray) (r : Int) (h0 : 0 ≤ r) (hr : r ≤ 1114111) (h1 : (r == 34) = false) (h2 : (r == 92) = false) (h3 : (r == 10) = false) (h4 : (r == 13) = false) (h5 : (r == 9) = false) (hh : hidB r = true) (pl sz : Int) (w : World) :
    Calls Tryd.prog 57 #[.string s, .agg #[.int .i64 r, .int .i64 pl, .int .i64 sz, .bool false]] w fun e w' => e = .returned (.string ⟨([92, 117, 123] ++ hexL r.toNat ++ [125]).toArray⟩) ∧ Below w.heap.size w w' := by
  have hB := (Below.refl w.heap.size w).alloc (Nat.le_refl _) (.cells #[.int .i64 r, .int .i64 pl, .int .i64 sz, .bool false] 97)
  have H := fun w => hidden_any r w
  rw [hh] at H
  have hst := St.start (b := 16) (mu := 0) (all_hex r.toNat (r.toNat + 21) (by omega))
  have hl : (hexL r.toNat).length ≤ 6 := (hexL_len 5 r.toNat (by have : (16 : Nat) ^ (5 + 1) = 16777216 := by decide
                                                                 omega)).2
  have hout : (⟨([92, 117, 123] ++ hexL r.toNat ++ [125]).toArray⟩ : ByteArray) = ⟨#[92, 117, 123]⟩ ++ ⟨(hexL r.toNat).toArray⟩ ++ ⟨#[125]⟩ := by
    apply ByteArray.ext
    simp [ByteArray.data_append]
  rw [hout]
  generalize hexL r.toNat = A at *
  clear hout
  go_enter Tryd.func57, Tryd.ntmps57
  go_wp2_with fail
  refine (H _).mono ?_; rintro e w' ⟨rfl, rfl⟩
  go_wp2_with fail
  go_loopw [6, 7] (fun d nv wr => ∃ (M : Int) (D : ByteArray) (acc : List UInt8), nv = .int .i64 M ∧ d = .string D ∧ 0 ≤ M ∧ M ≤ 1114111 ∧ Hid (St 16 0 A M.toNat acc ∧ D = ⟨acc.reverse.toArray⟩) ∧ Below w.heap.size w wr) (fun d nv _ => (intOf nv).toNat + (match d with | .string D => 17 - D.size | _ => 0))
  case atStart => exact ⟨r, ⟨#[]⟩, [], rfl, rfl, h0, hr, ⟨hst, rfl⟩, hB⟩
  case round =>
    obtain ⟨M, D, acc, rfl, rfl, hm0, hm, HS, hBr⟩ := hrel
    have hal : acc.length ≤ 6 := by have := HS.out.1.len; omega
    have hDz : D.size = acc.length := by rw [HS.out.2]; exact rev_size acc
    have hDe : D.toList.isEmpty = decide (acc.length = 0) := by rw [HS.out.2]; exact rev_empty acc
    by_cases hc : 0 < M.toNat ∨ acc.length = 0
    · have HN := hide (HS.out.1.step (by omega) (by omega) (by omega))
      have HX := fun w => hex_any (M.toNat % 16) (by omega) w
      rw [show ((M.toNat % 16 : Nat) : Int) = M % 16 by omega] at HX
      have HC := hide (show (⟨#[UInt8.ofNat (hexD (M.toNat % 16))]⟩ : ByteArray) ++ D = ⟨(acc ++ [UInt8.ofNat (hexD (M.toNat % 16))]).reverse.toArray⟩ by rw [HS.out.2]; exact rev_cat acc _)
      generalize UInt8.ofNat (hexD (M.toNat % 16)) = c at *
      have CV := fun (W : World) => conv1 W 5 c 1
      have hcs : (0 < M) ∨ (¬ 0 < M ∧ acc.length = 0) := by omega
      have hDI : (D.size : Int) ≤ 6 := by omega
      clear hc HS
      have HE : Hid (∀ D' : ByteArray, ⟨#[c]⟩ ++ D = D' → D'.size = acc.length + 1) := by
        intro D' hD'
        rw [← hD', HC.out, rev_size]
        simp
      rcases hcs with hp | ⟨hp, hz⟩
      · go_wp2_with fail
        refine (HX _).mono ?_; rintro e w' ⟨rfl, hw'⟩; obtain rfl := hw'.symm
        go_wp2
        exact ⟨⟨M / 16, ⟨#[c]⟩ ++ D, acc ++ [c], by go_num, rfl, by omega, by omega, ⟨by rw [show (M / 16).toNat = M.toNat / 16 by omega]; exact HN.out, HC.out⟩, hBr.alloc hBr.size _⟩, by have := HE.out _ rfl; simp only [intOf]; omega⟩
      · have hDe' : D.toList.isEmpty = true := by rw [hDe]; simp [hz]
        have hz' : D.size = 0 := by omega
        have HZ := hide hz
        clear hDe hz
        go_wp2_with fail
        refine (HX _).mono ?_; rintro e w' ⟨rfl, hw'⟩; obtain rfl := hw'.symm
        go_wp2
        exact ⟨⟨M / 16, ⟨#[c]⟩ ++ D, acc ++ [c], by go_num, rfl, by omega, by omega, ⟨by rw [show (M / 16).toNat = M.toNat / 16 by omega]; exact HN.out, HC.out⟩, hBr.alloc hBr.size _⟩, by have := HE.out _ rfl; have := HZ.out; simp only [intOf]; omega⟩
    · have hd := HS.out.1.done (by omega)
      have hDe' : D.toList.isEmpty = false := by rw [hDe, decide_eq_false_iff_not]; omega
      have hp : ¬ 0 < M := by omega
      have hDI : (D.size : Int) ≤ 6 := by omega
      have hDA : D = ⟨A.toArray⟩ := by rw [HS.out.2, hd]
      have HDA := hide hDA
      clear hDe hd HS hDA hst hl
      go_wp2
      go_ret
      refine ⟨?_, hBr⟩
      rw [← HDA.out]
      rfl

/-- what the document prints of a piece -/
theorem printed_any (s : ByteArray) (hs : s.size ≤ 1048576) (x : P4) (hx : Ofs s x) (w : World) :
    Calls Tryd.prog 57 #[.string s, .agg #[.int .i64 x.1, .int .i64 x.2.1, .int .i64 x.2.2.1, .bool x.2.2.2]] w fun e w' => e = .returned (.string ⟨(prn (ownB s x).data.toList x.1 x.2.2.2).toArray⟩) ∧ Below w.heap.size w w' := by
  obtain ⟨pos, k, hp1, hp2, hk1, hk4, hpk, hr0, hr1⟩ := of_place hx
  have hbr := of_broken hx
  have hown : ownB s x = s.extract pos (pos + k) := by
    unfold ownB
    rw [hp1, hp2]
    congr 1
  obtain ⟨r, pl, sz, br⟩ := x
  simp only at hp1 hp2 hr0 hr1 hbr hown ⊢
  subst hp1 hp2
  cases br with
  | true =>
    have hb := hbr rfl
    obtain ⟨n, rfl⟩ : ∃ n : Nat, r = (n : Int) := ⟨r.toNat, by omega⟩
    have e : prn (ownB s ((n : Int), (pos : Int), (k : Int), true)).data.toList (n : Int) true = [92, 120] ++ hexL n := by unfold prn; rw [if_pos rfl]; rfl
    rw [e]
    exact printed_broken s n (by omega) (by omega) _ _ w
  | false =>
    rw [hown]
    by_cases c1 : r = 34
    · have e : prn (s.extract pos (pos + k)).data.toList r false = [92, 34] := by unfold prn; rw [if_neg (by simp), if_pos c1]
      rw [e]
      exact printed_const s r _ (.inl ⟨c1, rfl⟩) _ _ w
    by_cases c2 : r = 92
    · have e : prn (s.extract pos (pos + k)).data.toList r false = [92, 92] := by unfold prn; rw [if_neg (by simp), if_neg c1, if_pos c2]
      rw [e]
      exact printed_const s r _ (.inr (.inl ⟨c2, rfl⟩)) _ _ w
    by_cases c3 : r = 10
    · have e : prn (s.extract pos (pos + k)).data.toList r false = [92, 110] := by unfold prn; rw [if_neg (by simp), if_neg c1, if_neg c2, if_pos c3]
      rw [e]
      exact printed_const s r _ (.inr (.inr (.inl ⟨c3, rfl⟩))) _ _ w
    by_cases c4 : r = 13
    · have e : prn (s.extract pos (pos + k)).data.toList r false = [92, 114] := by unfold prn; rw [if_neg (by simp), if_neg c1, if_neg c2, if_neg c3, if_pos c4]
      rw [e]
      exact printed_const s r _ (.inr (.inr (.inr (.inl ⟨c4, rfl⟩)))) _ _ w
    by_cases c5 : r = 9
    · have e : prn (s.extract pos (pos + k)).data.toList r false = [92, 116] := by unfold prn; rw [if_neg (by simp), if_neg c1, if_neg c2, if_neg c3, if_neg c4, if_pos c5]
      rw [e]
      exact printed_const s r _ (.inr (.inr (.inr (.inr ⟨c5, rfl⟩)))) _ _ w
    have q1 : (r == 34) = false := beq_eq_false_iff_ne.2 c1
    have q2 : (r == 92) = false := beq_eq_false_iff_ne.2 c2
    have q3 : (r == 10) = false := beq_eq_false_iff_ne.2 c3
    have q4 : (r == 13) = false := beq_eq_false_iff_ne.2 c4
    have q5 : (r == 9) = false := beq_eq_false_iff_ne.2 c5
    have hpl : plainF r = !hidB r := rfl
    cases hh : hidB r
    · rw [hh] at hpl
      have e : prn (s.extract pos (pos + k)).data.toList r false = (s.extract pos (pos + k)).data.toList := by unfold prn; rw [if_neg (by simp), if_neg c1, if_neg c2, if_neg c3, if_neg c4, if_neg c5, hpl]; rfl
      rw [e]
      have h := printed_own s hs r q1 q2 q3 q4 q5 hh pos k hpk w
      have e2 : ∀ b : ByteArray, (⟨b.data.toList.toArray⟩ : ByteArray) = b := fun b => by cases b; simp
      rw [e2]
      exact h
    · rw [hh] at hpl
      have e : prn (s.extract pos (pos + k)).data.toList r false = [92, 117, 123] ++ hexL r.toNat ++ [125] := by unfold prn; rw [if_neg (by simp), if_neg c1, if_neg c2, if_neg c3, if_neg c4, if_neg c5, hpl]; rfl
      rw [e]
      exact printed_hid s r hr0 hr1 q1 q2 q3 q4 q5 hh _ _ w
end Go.Proofs.YtckjededijgjgaaDoor.Qt
