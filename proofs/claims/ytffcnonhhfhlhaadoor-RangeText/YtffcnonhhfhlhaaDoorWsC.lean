import Derived.Test.YtffcnonhhfhlhaaDoorNumC
import Derived.Test.YtffcnonhhfhlhaaDoorRgA
import Derived.Shelf.Strings.Search1
import Derived.BigQuiet
import Derived.Test.YtffcnonhhfhlhaaDoorTxB
namespace Go.Proofs.YtffcnonhhfhlhaaDoor.Ws
open Go.RowKit Go.Shelf
set_option linter.unusedVariables false
theorem hide {p : Prop} (h : p) : Hid p := h
/-- what lies ahead of the first c, and behind it -/
def cutL (c : UInt8) : List UInt8 → List UInt8 × Option (List UInt8)
  | [] => ([], none)
  | x :: r => if x = c then ([], some r) else (x :: (cutL c r).1, (cutL c r).2)
/-- the words between the c -/
def spl (c : UInt8) : List UInt8 → List (List UInt8)
  | [] => [[]]
  | x :: r => if x = c then [] :: spl c r else (x :: ((spl c r).head?.getD [])) :: (spl c r).tail
theorem spl_ne (c : UInt8) : ∀ l, spl c l ≠ []
  | [] => by simp [spl]
  | x :: r => by unfold spl; split <;> simp
theorem spl_cut (c : UInt8) : ∀ l, spl c l = (cutL c l).1 :: (match (cutL c l).2 with | none => [] | some r => spl c r)
  | [] => rfl
  | x :: r => by
    have ih := spl_cut c r
    by_cases h : x = c
    · have e1 : spl c (x :: r) = [] :: spl c r := by simp only [spl, h, if_true]
      have e2 : cutL c (x :: r) = ([], some r) := by simp only [cutL, h, if_true]
      rw [e1, e2]
    · have e1 : spl c (x :: r) = (x :: ((spl c r).head?.getD [])) :: (spl c r).tail := by simp only [spl, h, if_false]
      have e2 : cutL c (x :: r) = (x :: (cutL c r).1, (cutL c r).2) := by simp only [cutL, h, if_false]
      rw [e1, e2, ih]
      rfl
theorem cut_idx (c : UInt8) : ∀ l : List UInt8, (Lib.indexByte l c = -1 ∧ cutL c l = (l, none)) ∨ (∃ k : Nat, k < l.length ∧ Lib.indexByte l c = (k : Int) ∧ cutL c l = (l.take k, some (l.drop (k + 1))))
  | [] => .inl ⟨rfl, rfl⟩
  | x :: r => by
    by_cases h : x = c
    · right
      refine ⟨0, by simp, by simp [Lib.indexByte, h], by simp [cutL, h]⟩
    · have hb : (x == c) = false := by simpa using h
      rcases cut_idx c r with ⟨h1, h2⟩ | ⟨k, h1, h2, h3⟩
      · left
        refine ⟨by simp [Lib.indexByte, hb, h1], by simp [cutL, h, h2]⟩
      · right
        refine ⟨k + 1, by simpa using h1, ?_, by simp [cutL, h, h3]⟩
        have hne : ((k : Int) == -1) = false := by simp
        simp [Lib.indexByte, hb, h2, hne]
theorem cut_len (c : UInt8) {l r : List UInt8} (h : (cutL c l).2 = some r) : r.length < l.length ∧ (cutL c l).1.length + 1 + r.length = l.length := by
  rcases cut_idx c l with ⟨_, h2⟩ | ⟨k, h1, _, h3⟩
  · rw [h2] at h; cases h
  · rw [h3] at h ⊢
    cases h
    simp
    omega
theorem ext_list (s : ByteArray) (a b : Nat) : (s.extract a b).data.toList = (s.data.toList.take b).drop a := by
  simp [ByteArray.data_extract, Array.toList_extract, List.drop_take]
set_option maxHeartbeats 1000000 in
set_option maxRecDepth 100000 in
/-- internal/stringslite.IndexByte -/
theorem indexByte_any (s : ByteArray) (c : Int) (w : World) :
    Calls Tryd.prog 126 #[.string s, .int .u8 c] w fun e w' => e = .returned (.int .i64 (Lib.indexByte s.data.toList c.toNat.toUInt8)) ∧ w' = w := by
  go_enter Tryd.func126, Tryd.ntmps126
  go_wp2
  rw [run_callFunc_extern Tryd.func133 (by kernel_rfl) (by kernel_rfl) (by kernel_rfl) (e := Extern.BytealgIndexByte.indexByte) (by kernel_rfl), Lib.run_indexByteString]
  simp only [Result.andThen]
  rw [Oper.upon_value]
  go_wp2
  go_ret
  exact ⟨rfl, rfl⟩
set_option maxHeartbeats 1000000 in
set_option maxRecDepth 100000 in
/-- strings.Index at one byte -/
theorem index_one (s : ByteArray) (c : UInt8) (w : World) :
    Calls Tryd.prog 117 #[.string s, .string ⟨#[c]⟩] w fun e w' => e = .returned (.int .i64 (Lib.indexByte s.data.toList c)) ∧ w' = w := by
  have IX := indexByte_any s (c.toNat : Int) w
  have hc : ((c.toNat : Int)).toNat.toUInt8 = c := by simp
  rw [hc] at IX
  have hidx : (⟨#[c]⟩ : ByteArray)[0]'(by show 0 < 1; decide) = c := rfl
  have hL : s.toList = s.data.toList := ByteArray.toList_eq s
  by_cases h : s.data.toList = [c]
  · have hb : ([c] == s.toList) = true := by rw [hL, h]; simp
    have hr : Lib.indexByte s.data.toList c = 0 := by rw [h]; simp [Lib.indexByte]
    rw [hr]
    clear hr h hL IX hc
    go_enter Tryd.func117, Tryd.ntmps117
    go_wp2
    go_ret
    exact ⟨rfl, rfl⟩
  · have hb : ([c] == s.toList) = false := by
      rw [hL]
      simp only [beq_eq_false_iff_ne, ne_eq]
      exact fun e => h e.symm
    have hR := hide hL
    clear h hL hc
    go_enter Tryd.func117, Tryd.ntmps117
    go_wp2_with fail
    refine IX.mono ?_; rintro e w' ⟨rfl, hw'⟩; obtain rfl := hw'.symm
    go_wp2
    go_ret
    exact ⟨rfl, rfl⟩
/-- the other name of it -/
theorem index103 (s : ByteArray) (c : UInt8) (w : World) :
    Calls Tryd.prog 103 #[.string s, .string ⟨#[c]⟩] w fun e w' => e = .returned (.int .i64 (Lib.indexByte s.data.toList c)) ∧ w' = w := by
  have IX := index_one s c w
  go_enter Tryd.func103, Tryd.ntmps103
  go_wp2_with fail
  refine IX.mono ?_; rintro e w' ⟨rfl, hw'⟩; obtain rfl := hw'.symm
  go_wp2
  go_ret
  exact ⟨rfl, rfl⟩
end Go.Proofs.YtffcnonhhfhlhaaDoor.Ws
namespace Go.Proofs.YtffcnonhhfhlhaaDoor.Ws
open Go.RowKit Go.Shelf
set_option linter.unusedVariables false
theorem kw (x : Int) (h0 : 0 ≤ x) (h1 : x ≤ 140737488355330) : wrap64 x = x ∧ IntKind.i64.wrap x = x := ⟨by unfold wrap64; omega, by rw [IntKind.wrap_i64]; omega⟩
/-- what Cut answers -/
def CutR (s : ByteArray) (c : UInt8) (e : Ending) : Prop := ∃ a b f, e = .returned (.tuple #[.string a, .string b, .bool f]) ∧ a.data.toList = (cutL c s.data.toList).1 ∧ b.data.toList = (cutL c s.data.toList).2.getD [] ∧ a.size ≤ s.size ∧ b.size ≤ s.size
set_option maxHeartbeats 1000000 in
set_option maxRecDepth 100000 in
theorem cut104 (s : ByteArray) (c : UInt8) (w : World) (hs : s.size ≤ 140737488355328) :
    Calls Tryd.prog 104 #[.string s, .string ⟨#[c]⟩] w fun e w' => CutR s c e ∧ ∃ q, w' = w.drewN q := by
  have mixed : Tryd.prog.follows .mixedOrders = true := by kernel_rfl
  have IX := index_one s c w
  have hsz : (⟨#[c]⟩ : ByteArray).size = 1 := rfl
  have hlen : s.data.toList.length = s.size := by simp
  rcases cut_idx c s.data.toList with ⟨h1, h2⟩ | ⟨k, h1, h2, h3⟩
  · rw [h1] at IX
    have HF : Hid (CutR s c (.returned (.tuple #[.string s, .string ⟨#[]⟩, .bool false]))) := hide ⟨s, ⟨#[]⟩, false, rfl, by rw [h2], by rw [h2]; rfl, Nat.le_refl _, Nat.zero_le _⟩
    clear h1 h2 hs hlen
    go_enter Tryd.func104, Tryd.ntmps104
    go_wp2_with fail
    refine IX.mono ?_; rintro e w' ⟨rfl, hw'⟩; obtain rfl := hw'.symm
    go_wp2
    go_ret3
    exact ⟨HF.out, 0, rfl⟩
  · rw [h2] at IX
    rw [hlen] at h1
    have HF : Hid (CutR s c (.returned (.tuple #[.string (s.extract 0 k), .string (s.extract (k + 1) s.size), .bool true]))) := hide ⟨_, _, true, rfl, by rw [h3, ext_list]; simp, by rw [h3, ext_list, ← hlen, List.take_of_length_le (Nat.le_refl _)]; rfl, by rw [ByteArray.size_extract]; omega, by rw [ByteArray.size_extract]; omega⟩
    have k0 : (0 : Int) ≤ (k : Int) := by omega
    have k1 : (k : Int) ≤ (s.size : Int) := by omega
    have k2 : (k : Int) + 1 ≤ (s.size : Int) := by omega
    have k3 : ((k : Int) + 1).toNat = k + 1 := by omega
    have k4 : (k : Int).toNat = k := by omega
    have k6 : (0 : Int) ≤ (k : Int) + 1 := by omega
    have k7 : ¬ (k : Int) < 0 := by omega
    obtain ⟨e1, e2⟩ := kw ((k : Int) + 1) (by omega) (by omega)
    clear h1 h2 h3 hs hlen
    go_enter Tryd.func104, Tryd.ntmps104
    go_wp2_with fail
    refine IX.mono ?_; rintro e w' ⟨rfl, hw'⟩; obtain rfl := hw'.symm
    go_wp2_with fail
    go_quiet (fail)
    go_wp2
    go_ret3
    exact ⟨HF.out, nq, rfl⟩
set_option maxHeartbeats 1000000 in
set_option maxRecDepth 100000 in
theorem cut81 (s : ByteArray) (c : UInt8) (w : World) (hs : s.size ≤ 140737488355328) :
    Calls Tryd.prog 81 #[.string s, .string ⟨#[c]⟩] w fun e w' => CutR s c e ∧ ∃ q, w' = w.drewN q := by
  have CT := cut104 s c w hs
  go_enter Tryd.func81, Tryd.ntmps81
  go_wp2_with fail
  refine CT.mono ?_; rintro e w' ⟨⟨a, b, f, rfl, h1, h2, h3, h4⟩, hw⟩
  have HF := hide (And.intro h1 (And.intro h2 (And.intro h3 (And.intro h4 hw))))
  clear h1 h2 h3 h4 hw CT
  go_wp2
  go_ret3
  obtain ⟨h1, h2, h3, h4, hw⟩ := HF.out
  exact ⟨⟨a, b, f, rfl, h1, h2, h3, h4⟩, hw⟩
/-- a number of decimal digits, and whether it is one -/
def dN (l : List UInt8) : Nat := (Num.numF l).1
def dB (l : List UInt8) : Bool := decide ((Num.numF l).2.2 = 0) && !Num.pre l
theorem decF_le : ∀ (l : List UInt8) (n k : Nat), n ≤ Num.top → (Num.decF n k l).1 ≤ Num.top
  | [], n, k, h => h
  | c :: r, n, k, h => by
    unfold Num.decF
    split
    · exact Nat.zero_le _
    · split
      · exact Nat.zero_le _
      · exact decF_le r _ _ (by omega)
theorem dN_le {l : List UInt8} (h : dB l = true) : dN l ≤ Num.top := by
  unfold dB at h
  simp only [Bool.and_eq_true, decide_eq_true_eq, Bool.not_eq_true'] at h
  unfold dN Num.numF
  have hp : ¬ l.take 2 = [48, 120] := fun e => by
    have := h.2
    unfold Num.pre at this
    rw [e] at this
    cases this
  split
  · exact Nat.zero_le _
  · split
    · exact Nat.zero_le _
    · exact decF_le l 0 0 (Nat.zero_le _)
set_option maxHeartbeats 1000000 in
set_option maxRecDepth 100000 in
theorem decimal82 (s : ByteArray) (w : World) (hs : s.size ≤ 140737488355328) :
    Calls Tryd.prog 82 #[.string s] w fun e w' => e = .returned (.tuple #[.int .u64 (dN s.data.toList : Int), .bool (dB s.data.toList)]) ∧ w' = w := by
  have NU := Num.number_any s w hs
  have HP := Num.hasPrefix_any s w hs
  unfold dN dB
  unfold Num.three at NU
  generalize Num.numF s.data.toList = r at NU ⊢
  obtain ⟨n, p, q⟩ := r
  simp only at NU ⊢
  generalize Num.pre s.data.toList = f at HP ⊢
  by_cases hq : q = 0
  · subst hq
    have hq1 : (((0 : Nat) : Int) == 0) = true := rfl
    clear hs
    go_enter Tryd.func82, Tryd.ntmps82
    go_wp2_with fail
    refine NU.mono ?_; rintro e w' ⟨rfl, hw'⟩; obtain rfl := hw'.symm
    go_wp2_with fail
    refine HP.mono ?_; rintro e w' ⟨rfl, hw'⟩; obtain rfl := hw'.symm
    cases f
    · go_wp2
      go_ret2
      exact ⟨rfl, rfl⟩
    · go_wp2
      go_ret2
      exact ⟨rfl, rfl⟩
  · have hq1 : ((q : Int) == 0) = false := by simp; omega
    have hd : decide (q = 0) = false := by simpa using hq
    rw [hd]
    clear hs hq hd
    go_enter Tryd.func82, Tryd.ntmps82
    go_wp2_with fail
    refine NU.mono ?_; rintro e w' ⟨rfl, hw'⟩; obtain rfl := hw'.symm
    go_wp2
    go_ret2
    exact ⟨rfl, rfl⟩
end Go.Proofs.YtffcnonhhfhlhaaDoor.Ws
namespace Go.Proofs.YtffcnonhhfhlhaaDoor.Ws
open Go.RowKit Go.Shelf
set_option linter.unusedVariables false
/-- a word's three parts -/
def pA (l : List UInt8) : List UInt8 := (cutL 45 l).1
def pR (l : List UInt8) : List UInt8 := (cutL 45 l).2.getD []
def pB (l : List UInt8) : List UInt8 := (cutL 58 (pR l)).1
def pC (l : List UInt8) : List UInt8 := (cutL 58 (pR l)).2.getD []
/-- what a word says -/
def segF (l : List UInt8) : Option Rg.Sg := if dB (pA l) = true ∧ dB (pB l) = true ∧ dB (pC l) = true ∧ dN (pC l) < 16 then some ⟨dN (pA l), dN (pB l), dN (pC l)⟩ else none
theorem segF_b {l : List UInt8} {g : Rg.Sg} (h : segF l = some g) : Rg.SgB g := by
  unfold segF at h
  split at h
  · rename_i hc
    cases h
    have h1 := dN_le hc.1
    have h2 := dN_le hc.2.1
    have h3 := hc.2.2.2
    unfold Num.top at h1 h2
    exact ⟨by simp, by simp; omega, by simp, by simp; omega, by simp, by simp; omega⟩
  · cases h
/-- what segmentOf answers -/
def SegR (l : List UInt8) (e : Ending) : Prop := (segF l = none ∧ e = .returned (.tuple #[.agg #[.int .u64 0, .int .u64 0, .int .u8 0], .bool false])) ∨ ∃ g, segF l = some g ∧ e = .returned (.tuple #[.agg #[.int .u64 g.lo, .int .u64 g.hi, .int .u8 g.h], .bool true])
theorem kq_nu {w w1 w2 : World} (k : Rg.Kp Rg.Nu w w1) (h : ∃ q, w2 = w1.drewN q) : Rg.Kp Rg.Nu w w2 := by
  obtain ⟨q, rfl⟩ := h
  exact ⟨k.os, k.tape, k.output, k.size, k.block⟩
set_option maxHeartbeats 2000000 in
set_option maxRecDepth 100000 in
theorem segmentOf65 (s : ByteArray) (w : World) (hs : s.size ≤ 140737488355328) :
    Calls Tryd.prog 65 #[.string s] w fun e w' => SegR s.data.toList e ∧ Rg.Kp Rg.Nu w w' := by
  have KA := Rg.Kp.alloc w (.cells #[.int .u64 0, .int .u64 0, .int .u8 0] 26) Rg.Nu
  have xA := heap_alloc_new w (.cells #[.int .u64 0, .int .u64 0, .int .u8 0] 26)
  obtain ⟨w0, ew0⟩ : ∃ w0, w.alloc (.cells #[.int .u64 0, .int .u64 0, .int .u8 0] 26) = w0 := ⟨_, rfl⟩
  rw [ew0] at KA xA
  have C1 := cut81 s 45 w0 hs
  have H0 := hide (And.intro KA (And.intro xA hs))
  clear KA xA hs
  go_enter Tryd.func65, Tryd.ntmps65
  go_wp2_with fail
  refine C1.mono ?_; rintro e w1 ⟨⟨a, r, f1, rfl, a1, a2, a3, a4⟩, k1⟩
  have C2 := cut81 r 58 w1 (by have := H0.out.2.2; omega)
  have H1 := hide (And.intro a1 (And.intro a2 (And.intro a3 (And.intro a4 (kq_nu H0.out.1 k1)))))
  have HX1 : Hid (w1.heap[w.heap.size]? = some (.cells #[.int .u64 0, .int .u64 0, .int .u8 0] 26 (0, 0))) := by obtain ⟨q, rfl⟩ := k1; exact hide H0.out.2.1
  clear C1 a1 a2 a3 a4 k1
  go_wp2_with fail
  refine C2.mono ?_; rintro e w2 ⟨⟨b, c, f2, rfl, b1, b2, b3, b4⟩, k2⟩
  have hsz := H0.out.2.2
  have a3 := H1.out.2.2.1
  have a4 := H1.out.2.2.2.1
  have D1 := decimal82 a w2 (by omega)
  have D2 := decimal82 b w2 (by omega)
  have D3 := decimal82 c w2 (by omega)
  have ha : a.data.toList = pA s.data.toList := H1.out.1
  have hb : b.data.toList = pB s.data.toList := by rw [b1, H1.out.2.1]; rfl
  have hc : c.data.toList = pC s.data.toList := by rw [b2, H1.out.2.1]; rfl
  rw [ha] at D1
  rw [hb] at D2
  rw [hc] at D3
  have x2 : w2.heap[w.heap.size]? = some (.cells #[.int .u64 0, .int .u64 0, .int .u8 0] 26 (0, 0)) := by obtain ⟨q, rfl⟩ := k2; exact HX1.out
  obtain ⟨c0, c1, c2⟩ := Rg.cell3 x2
  have g0 := Rg.free3 x2 0
  have g1 := Rg.free3 x2 1
  have g2 := Rg.free3 x2 2
  have K2 := hide (kq_nu H1.out.2.2.2.2 k2)
  have X2 := hide x2
  have HS : Hid (segF s.data.toList = if dB (pA s.data.toList) = true ∧ dB (pB s.data.toList) = true ∧ dB (pC s.data.toList) = true ∧ dN (pC s.data.toList) < 16 then some ⟨dN (pA s.data.toList), dN (pB s.data.toList), dN (pC s.data.toList)⟩ else none) := hide rfl
  have HT : Hid (dB (pC s.data.toList) = true → dN (pC s.data.toList) ≤ Num.top) := hide dN_le
  generalize dN (pA s.data.toList) = n1 at D1 HS
  generalize dB (pA s.data.toList) = q1 at D1 HS
  generalize dN (pB s.data.toList) = n2 at D2 HS
  generalize dB (pB s.data.toList) = q2 at D2 HS
  generalize dN (pC s.data.toList) = n3 at D3 HS HT
  generalize dB (pC s.data.toList) = q3 at D3 HS HT
  clear C2 b1 b2 b3 b4 k2 hsz a3 a4 ha hb hc x2 HX1 H0 H1
  go_wp2_with fail
  refine D1.mono ?_; rintro e w' ⟨rfl, hw'⟩; obtain rfl := hw'.symm
  go_wp2_with fail
  refine D2.mono ?_; rintro e w' ⟨rfl, hw'⟩; obtain rfl := hw'.symm
  go_wp2_with fail
  refine D3.mono ?_; rintro e w' ⟨rfl, hw'⟩; obtain rfl := hw'.symm
  clear D1 D2 D3
  have fin : ∀ {x y z : Value}, Hid (((((w2.setCell ⟨w.heap.size, 0, none⟩ x).setCell ⟨w.heap.size, 1, none⟩ y).setCell ⟨w.heap.size, 2, none⟩ z).heap[w.heap.size]? = some (.cells #[x, y, z] 26 (0, 0))) ∧ Rg.Kp Rg.Nu w (((w2.setCell ⟨w.heap.size, 0, none⟩ x).setCell ⟨w.heap.size, 1, none⟩ y).setCell ⟨w.heap.size, 2, none⟩ z)) := fun {x y z} => by
    refine hide ⟨?_, ?_⟩
    · have h1 := Rg.set3 X2.out 0 x
      have h2 := Rg.set3 h1 1 y
      exact Rg.set3 h2 2 z
    · exact (((K2.out.andSet _ _ (.inl (Nat.le_refl _))).andSet _ _ (.inl (Nat.le_refl _))).andSet _ _ (.inl (Nat.le_refl _)))
  by_cases hall : q1 = true ∧ q2 = true ∧ q3 = true ∧ n3 < 16
  · obtain ⟨rfl, rfl, rfl, h16⟩ := hall
    have HR : Hid (segF s.data.toList = some ⟨n1, n2, n3⟩) := hide (by rw [HS.out, if_pos ⟨rfl, rfl, rfl, h16⟩])
    have i1 : ¬ (n3 : Int) ≥ 16 := by omega
    have i2 : decide ((n3 : Int) ≥ 16) = false := by simpa using i1
    have i3 : IntKind.u8.wrap (n3 : Int) = (n3 : Int) := by show (n3 : Int) % 256 = n3; omega
    have HF := fin (x := .int .u64 (n1 : Int)) (y := .int .u64 (n2 : Int)) (z := .int .u8 (n3 : Int))
    obtain ⟨y0, y1, y2⟩ := Rg.cell3 HF.out.1
    clear fin h16 HS HT
    go_wp2
    refine bodyPost_ret (v := .tuple #[.agg #[.int .u64 (n1 : Int), .int .u64 (n2 : Int), .int .u8 (n3 : Int)], .bool true]) (by simp [results, Tryd.results65, go_sem, y0, y1, y2]) rfl ?_
    exact ⟨.inr ⟨_, HR.out, rfl⟩, HF.out.2⟩
  · have HR : Hid (segF s.data.toList = none) := hide (by rw [HS.out, if_neg hall])
    have HF := fin (x := .int .u64 0) (y := .int .u64 0) (z := .int .u8 0)
    obtain ⟨y0, y1, y2⟩ := Rg.cell3 HF.out.1
    have HQ := hide hall
    clear fin HS HT hall
    cases q1
    · clear HQ
      go_wp2
      refine bodyPost_ret (v := .tuple #[.agg #[.int .u64 0, .int .u64 0, .int .u8 0], .bool false]) (by simp [results, Tryd.results65, go_sem, y0, y1, y2]) rfl ?_
      exact ⟨.inl ⟨HR.out, rfl⟩, HF.out.2⟩
    cases q2
    · clear HQ
      go_wp2
      refine bodyPost_ret (v := .tuple #[.agg #[.int .u64 0, .int .u64 0, .int .u8 0], .bool false]) (by simp [results, Tryd.results65, go_sem, y0, y1, y2]) rfl ?_
      exact ⟨.inl ⟨HR.out, rfl⟩, HF.out.2⟩
    cases q3
    · clear HQ
      go_wp2
      refine bodyPost_ret (v := .tuple #[.agg #[.int .u64 0, .int .u64 0, .int .u8 0], .bool false]) (by simp [results, Tryd.results65, go_sem, y0, y1, y2]) rfl ?_
      exact ⟨.inl ⟨HR.out, rfl⟩, HF.out.2⟩
    have h16 : ¬ n3 < 16 := fun h => HQ.out ⟨rfl, rfl, rfl, h⟩
    have i1 : (n3 : Int) ≥ 16 := by omega
    have i2 : decide ((n3 : Int) ≥ 16) = true := by simpa using i1
    clear HQ h16
    go_wp2
    refine bodyPost_ret (v := .tuple #[.agg #[.int .u64 0, .int .u64 0, .int .u8 0], .bool false]) (by simp [results, Tryd.results65, go_sem, y0, y1, y2]) rfl ?_
    exact ⟨.inl ⟨HR.out, rfl⟩, HF.out.2⟩
end Go.Proofs.YtffcnonhhfhlhaaDoor.Ws
