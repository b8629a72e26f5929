import Derived.Test.YtckjededijgjgaaDoorNumC
import Derived.Test.YtckjededijgjgaaDoorDgL
import Derived.Test.YtckjededijgjgaaDoorPcF
import Derived.Test.YtckjededijgjgaaDoorQtC
namespace Go.Proofs.YtckjededijgjgaaDoor.Uq
open Go.RowKit
open Go.Proofs.YtckjededijgjgaaDoor.Num (hexV hexV_le hexDigit_yes hexDigit_no byte_at)
set_option linter.unusedVariables false

theorem hide {p : Prop} (h : p) : Hid p := h
/-- hexadecimal digits from the left, at most f of them: their number, how many -/
def hexRun : Nat → Nat → Nat → List UInt8 → Nat × Nat
  | 0, n, k, _ => (n, k)
  | f + 1, n, k, [] => (n, k)
  | f + 1, n, k, c :: r => if hexV c.toNat = 16 then (n, k) else hexRun f (16 * n + hexV c.toNat) (k + 1) r

/-- an escape, whose backslash is the first byte: what it means, how many bytes; 0: it is none -/
def escB (l : List UInt8) : List UInt8 × Nat :=
  if l.length < 4 then ([], 0) else if hexV (l.getD 2 0).toNat = 16 ∨ hexV (l.getD 3 0).toNat = 16 then ([], 0) else ([UInt8.ofNat (16 * hexV (l.getD 2 0).toNat + hexV (l.getD 3 0).toNat)], 4)

theorem or4 (a b : Nat) (ha : a < 16) (hb : b < 16) : bits .or .u8 ((a : Int) * 16) (b : Int) = ((16 * a + b : Nat) : Int) := by
  have h : ∀ (a b : Fin 16), bits .or .u8 ((a.val : Int) * 16) (b.val : Int) = ((16 * a.val + b.val : Nat) : Int) := by decide +kernel
  exact h ⟨a, ha⟩ ⟨b, hb⟩
theorem get_d (s : ByteArray) (k : Nat) (h : k < s.size) : s.data.toList.getD k 0 = s[k] := by
  rw [List.getD_eq_getElem?_getD, List.getElem?_eq_getElem (by simpa using h)]
  exact byte_at s k h

set_option maxRecDepth 100000 in
set_option maxHeartbeats 1000000 in
theorem byteEscape_any (s : ByteArray) (hs : s.size ≤ 11000000) (w : World) :
    Calls Tryd.prog 124 #[.string s] w fun e w' => e = .returned (.tuple #[.string ⟨(escB s.data.toList).1.toArray⟩, .int .i64 ((escB s.data.toList).2 : Int)]) ∧ Below w.heap.size w w' := by
  have hlen : s.data.toList.length = s.size := by simp
  by_cases h4 : s.size < 4
  · have e : escB s.data.toList = ([], 0) := by unfold escB; rw [if_pos (by omega)]
    rw [e]
    have h4I : (s.size : Int) < 4 := by omega
    clear e hlen
    go_enter Tryd.func124, Tryd.ntmps124
    go_wp2
    go_ret2
    exact ⟨rfl, Below.refl _ _⟩
  · have h4I : (4 : Int) ≤ (s.size : Int) := by omega
    have h2 : 2 < s.size := by omega
    have h3 : 3 < s.size := by omega
    have e : escB s.data.toList = if hexV s[2].toNat = 16 ∨ hexV s[3].toNat = 16 then ([], 0) else ([UInt8.ofNat (16 * hexV s[2].toNat + hexV s[3].toNat)], 4) := by
      unfold escB; rw [if_neg (by omega), get_d s 2 h2, get_d s 3 h3]
    rw [e]
    clear e hlen
    have l2 := s[2].toNat_lt
    have l3 := s[3].toNat_lt
    have v2 := hexV_le s[2].toNat
    have v3 := hexV_le s[3].toNat
    by_cases q2 : hexV s[2].toNat = 16
    · rw [if_pos (.inl q2)]
      have Y := fun w => hexDigit_no s[2].toNat w l2 q2
      by_cases q3 : hexV s[3].toNat = 16
      · have Z := fun w => hexDigit_no s[3].toNat w l3 q3
        generalize hexV s[2].toNat = a at *
        generalize hexV s[3].toNat = b at *
        clear q2 q3
        go_enter Tryd.func124, Tryd.ntmps124
        go_wp2_with fail
        refine (Y _).mono ?_; rintro e w1 ⟨rfl, hw⟩; obtain rfl := hw.symm
        go_wp2_with fail
        refine (Z _).mono ?_; rintro e w1 ⟨rfl, hw⟩; obtain rfl := hw.symm
        go_wp2
        go_ret2
        exact ⟨rfl, Below.refl _ _⟩
      · have Z := fun w => hexDigit_yes s[3].toNat w l3 q3
        generalize hexV s[2].toNat = a at *
        generalize hexV s[3].toNat = b at *
        clear q2 q3
        go_enter Tryd.func124, Tryd.ntmps124
        go_wp2_with fail
        refine (Y _).mono ?_; rintro e w1 ⟨rfl, hw⟩; obtain rfl := hw.symm
        go_wp2_with fail
        refine (Z _).mono ?_; rintro e w1 ⟨rfl, hw⟩; obtain rfl := hw.symm
        go_wp2
        go_ret2
        exact ⟨rfl, Below.refl _ _⟩
    · have Y := fun w => hexDigit_yes s[2].toNat w l2 q2
      by_cases q3 : hexV s[3].toNat = 16
      · rw [if_pos (.inr q3)]
        have Z := fun w => hexDigit_no s[3].toNat w l3 q3
        generalize hexV s[2].toNat = a at *
        generalize hexV s[3].toNat = b at *
        clear q2 q3
        go_enter Tryd.func124, Tryd.ntmps124
        go_wp2_with fail
        refine (Y _).mono ?_; rintro e w1 ⟨rfl, hw⟩; obtain rfl := hw.symm
        go_wp2_with fail
        refine (Z _).mono ?_; rintro e w1 ⟨rfl, hw⟩; obtain rfl := hw.symm
        go_wp2
        go_ret2
        exact ⟨rfl, Below.refl _ _⟩
      · rw [if_neg (by omega)]
        have Z := fun w => hexDigit_yes s[3].toNat w l3 q3
        generalize hexV s[2].toNat = a at *
        generalize hexV s[3].toNat = b at *
        have ha : a < 16 := by omega
        have hb : b < 16 := by omega
        have hor := or4 a b ha hb
        have hu : ((16 * a + b : Nat) : Int) = ((UInt8.ofNat (16 * a + b)).toNat : Int) := by simp; omega
        rw [hu] at hor
        generalize UInt8.ofNat (16 * a + b) = c at *
        have CV := fun (W : World) => Qt.conv1 W 5 c 1
        clear q2 q3 hu
        go_enter Tryd.func124, Tryd.ntmps124
        go_wp2_with fail
        refine (Y _).mono ?_; rintro e w1 ⟨rfl, hw⟩; obtain rfl := hw.symm
        go_wp2_with fail
        refine (Z _).mono ?_; rintro e w1 ⟨rfl, hw⟩; obtain rfl := hw.symm
        go_wp2
        go_ret2
        exact ⟨rfl, (Below.refl _ _).alloc (Nat.le_refl _) _⟩

/-! the escape of a rune by its number -/
def escR (l : List UInt8) : List UInt8 × Nat :=
  if l.take 3 ≠ [92, 117, 123] then ([], 0) else
    if (hexRun 6 0 0 (l.drop 3)).2 = 0 ∨ l.length ≤ 3 + (hexRun 6 0 0 (l.drop 3)).2 ∨ l.getD (3 + (hexRun 6 0 0 (l.drop 3)).2) 0 ≠ 125 then ([], 0)
    else if Utf8.valid ((hexRun 6 0 0 (l.drop 3)).1 : Int) = true then ((Utf8.encode ((hexRun 6 0 0 (l.drop 3)).1 : Int)).data.toList, 3 + (hexRun 6 0 0 (l.drop 3)).2 + 1) else ([], 0)

/-- k digits have been read, the number is n -/
def Run (l : List UInt8) (n k : Nat) : Prop := hexRun 6 0 0 (l.drop 3) = hexRun (6 - k) n k (l.drop (3 + k))
theorem Run.start (l : List UInt8) : Run l 0 0 := rfl
theorem Run.six {l : List UInt8} {n k : Nat} (h : Run l n k) (hk : 6 ≤ k) : hexRun 6 0 0 (l.drop 3) = (n, k) := by
  rw [h, show 6 - k = 0 by omega]
  unfold hexRun
  rfl
theorem Run.off {l : List UInt8} {n k : Nat} (h : Run l n k) (hl : l.length ≤ 3 + k) : hexRun 6 0 0 (l.drop 3) = (n, k) := by
  rw [h, List.drop_of_length_le hl]
  cases 6 - k <;> rfl
theorem Run.stop {l : List UInt8} {n k : Nat} (h : Run l n k) (hl : 3 + k < l.length) (hc : hexV l[3 + k].toNat = 16) : hexRun 6 0 0 (l.drop 3) = (n, k) := by
  rw [h, List.drop_eq_getElem_cons hl]
  cases 6 - k with
  | zero => rfl
  | succ f => rw [hexRun, if_pos hc]
theorem Run.step {l : List UInt8} {n k : Nat} (h : Run l n k) (hk : k < 6) (hl : 3 + k < l.length) (hc : hexV l[3 + k].toNat ≠ 16) : Run l (16 * n + hexV l[3 + k].toNat) (k + 1) := by
  unfold Run
  rw [h, List.drop_eq_getElem_cons hl, show 6 - k = (6 - (k + 1)) + 1 by omega, hexRun, if_neg hc]
  rfl
theorem ofInt_32 (a : Nat) (ha : a < 4294967296) : (BitVec.ofInt 32 (a : Int)).toNat = a := by
  rw [BitVec.ofInt_natCast, BitVec.toNat_ofNat]; exact Nat.mod_eq_of_lt (by omega)
theorem or_i32 (n d : Nat) (hn : n < 1048576) (hd : d < 16) : bits .or .i32 ((n : Int) * 16) (d : Int) = ((16 * n + d : Nat) : Int) := by
  have e : ((n : Int) * 16) = ((16 * n : Nat) : Int) := by omega
  rw [e]
  show IntKind.i32.wrap ((BitVec.ofInt 32 ((16 * n : Nat) : Int) ||| BitVec.ofInt 32 (d : Int)).toNat : Int) = _
  rw [BitVec.toNat_or, ofInt_32 (16 * n) (by omega), ofInt_32 d (by omega)]
  have h2 : 16 * n ||| d = 16 * n + d := by
    have : 16 * n = n <<< 4 := by rw [Nat.shiftLeft_eq]; omega
    rw [this, Nat.shiftLeft_add_eq_or_of_lt (by omega)]
  rw [h2, IntKind.wrap_i32]
  omega
theorem escR_of {l : List UInt8} {n k : Nat} (h : l.take 3 = [92, 117, 123]) (hr : hexRun 6 0 0 (l.drop 3) = (n, k)) :
    escR l = if k = 0 ∨ l.length ≤ 3 + k ∨ l.getD (3 + k) 0 ≠ 125 then ([], 0) else if Utf8.valid (n : Int) = true then ((Utf8.encode (n : Int)).data.toList, 3 + k + 1) else ([], 0) := by
  unfold escR
  rw [if_neg (by simp [h]), hr]
/-- does the text begin with an escape of a rune? -/
def preU (l : List UInt8) : Bool := l.take 3 == [92, 117, 123]
theorem preU_list : ∀ l : List UInt8, Lib.hasPrefix l [92, 117, 123] = preU l
  | [] => rfl
  | [a] => by simp [Lib.hasPrefix, preU, List.isPrefixOf]
  | [a, b] => by simp [Lib.hasPrefix, preU, List.isPrefixOf]
  | a :: b :: c :: t => by
    simp only [Lib.hasPrefix, preU, List.isPrefixOf, List.take_succ_cons, List.take_zero, Bool.and_true]
    rw [Bool.eq_iff_iff]
    simp only [Bool.and_eq_true, beq_iff_eq, List.cons.injEq, and_true]
    constructor
    · rintro ⟨h1, h2, h3⟩; exact ⟨h1.symm, h2.symm, h3.symm⟩
    · rintro ⟨h1, h2, h3⟩; exact ⟨h1.symm, h2.symm, h3.symm⟩
theorem hasU (s : ByteArray) (b : Bool) (h : preU s.data.toList = b) (w : World) : Calls Tryd.prog 68 #[.string s, .string ⟨#[92, 117, 123]⟩] w fun e w' => e = .returned (.bool b) ∧ w' = w := by
  have := Tryd.strings_HasPrefix s ⟨#[92, 117, 123]⟩ w
  rw [show (⟨#[92, 117, 123]⟩ : ByteArray).data.toList = [92, 117, 123] from rfl, preU_list, h] at this
  exact this
end Go.Proofs.YtckjededijgjgaaDoor.Uq
namespace Go.Proofs.YtckjededijgjgaaDoor.Uq
open Go.RowKit
open Go.Proofs.YtckjededijgjgaaDoor.Num (hexV hexV_le hexDigit_yes hexDigit_no byte_at)
set_option linter.unusedVariables false

theorem ba (b : ByteArray) : (⟨b.data.toList.toArray⟩ : ByteArray) = b := by cases b; simp
theorem pow_lt {n d k : Nat} (hn : n < 16 ^ k) (hd : d < 16) : 16 * n + d < 16 ^ (k + 1) := by
  rw [Nat.pow_succ]; omega

set_option maxRecDepth 100000 in
set_option maxHeartbeats 1600000 in
theorem runeEscape_any (s : ByteArray) (hs : s.size ≤ 11000000) (w : World) :
    Calls Tryd.prog 125 #[.string s] w fun e w' => e = .returned (.tuple #[.string ⟨(escR s.data.toList).1.toArray⟩, .int .i64 ((escR s.data.toList).2 : Int)]) ∧ Below w.heap.size w w' := by
  have hlen : s.data.toList.length = s.size := by simp
  cases hp : preU s.data.toList
  · have H := fun w => hasU s false hp w
    have e : escR s.data.toList = ([], 0) := by
      unfold escR
      rw [if_pos]
      unfold preU at hp
      exact beq_eq_false_iff_ne.1 hp
    rw [e]
    clear e hp hlen
    go_enter Tryd.func125, Tryd.ntmps125
    go_wp2_with fail
    refine (H _).mono ?_; rintro e w1 ⟨rfl, hw⟩; obtain rfl := hw.symm
    go_wp2
    go_ret2
    exact ⟨rfl, Below.refl _ _⟩
  · have H := fun w => hasU s true hp w
    have HP : Hid (s.data.toList.take 3 = [92, 117, 123]) := by
      unfold preU at hp
      exact beq_iff_eq.1 hp
    have h3 : 3 ≤ s.size := by
      have := congrArg List.length HP.out
      rw [List.length_take, hlen] at this
      simp at this
      omega
    clear hp
    go_enter Tryd.func125, Tryd.ntmps125
    go_wp2_with fail
    refine (H _).mono ?_; rintro e w1 ⟨rfl, hw⟩; obtain rfl := hw.symm
    go_wp2_with fail
    go_loop [4, 5] (fun r av => ∃ (N : Int) (a : Nat), r = .int .i32 N ∧ av = .int .i64 (a : Int) ∧ 3 ≤ a ∧ a ≤ 9 ∧ a ≤ s.size ∧ 0 ≤ N ∧ N < 16777216 ∧ Hid (Run s.data.toList N.toNat (a - 3) ∧ N.toNat < 16 ^ (a - 3))) (fun _ av => s.size - (intOf av).toNat)
    case atStart => exact ⟨0, 3, rfl, rfl, by omega, by omega, by omega, by omega, by omega, Run.start _, by decide⟩
    case round =>
      obtain ⟨N, a, rfl, rfl, ha3, ha9, has, hN0, hN1, hR⟩ := hrel
      by_cases hend : s.size ≤ a ∨ 9 ≤ a
      · have HR : Hid (hexRun 6 0 0 (s.data.toList.drop 3) = (N.toNat, a - 3)) := by
          rcases hend with h | h
          · exact hR.out.1.off (by rw [hlen]; omega)
          · exact hR.out.1.six (by omega)
        have hex : ¬ ((a : Int) < (s.size : Int)) ∨ ((a : Int) < (s.size : Int) ∧ ¬ ((a : Int) < 9)) := by omega
        clear hR hend
        rcases hex with hx | ⟨hx, hx2⟩
        · have hks2 : s.size ≤ a := by omega
          by_cases o1 : a = 3
          · have HE : Hid (escR s.data.toList = ([], 0)) := by show _ = _; rw [escR_of HP.out HR.out, if_pos (.inl (by omega))]
            have b1 : ((a : Int) == 3) = true := by rw [beq_iff_eq]; omega
            clear o1 HR
            go_wp2
            go_ret2
            rw [HE.out]
            exact ⟨rfl, Below.refl _ _⟩
          have b1 : ((a : Int) == 3) = false := by rw [beq_eq_false_iff_ne]; omega
          by_cases o2 : s.size ≤ a
          · have HE : Hid (escR s.data.toList = ([], 0)) := by show _ = _; rw [escR_of HP.out HR.out, if_pos (.inr (.inl (by rw [hlen]; omega)))]
            have b2 : ((a : Int) == (s.size : Int)) = true := by rw [beq_iff_eq]; omega
            clear o1 HR
            go_wp2
            go_ret2
            rw [HE.out]
            exact ⟨rfl, Below.refl _ _⟩
          exact absurd hks2 o2
        · have hks2 : a < s.size := by omega
          by_cases o1 : a = 3
          · have HE : Hid (escR s.data.toList = ([], 0)) := by show _ = _; rw [escR_of HP.out HR.out, if_pos (.inl (by omega))]
            have b1 : ((a : Int) == 3) = true := by rw [beq_iff_eq]; omega
            clear o1 HR
            go_wp2
            go_ret2
            rw [HE.out]
            exact ⟨rfl, Below.refl _ _⟩
          have b1 : ((a : Int) == 3) = false := by rw [beq_eq_false_iff_ne]; omega
          by_cases o2 : s.size ≤ a
          · have HE : Hid (escR s.data.toList = ([], 0)) := by show _ = _; rw [escR_of HP.out HR.out, if_pos (.inr (.inl (by rw [hlen]; omega)))]
            have b2 : ((a : Int) == (s.size : Int)) = true := by rw [beq_iff_eq]; omega
            clear o1 HR
            go_wp2
            go_ret2
            rw [HE.out]
            exact ⟨rfl, Below.refl _ _⟩
          have b2 : ((a : Int) == (s.size : Int)) = false := by rw [beq_eq_false_iff_ne]; omega
          have hlt3 : a < s.size := by omega
          have hlt3I : (a : Int) < (s.size : Int) := by omega
          have hgd : s.data.toList.getD (3 + (a - 3)) 0 = s[a] := by rw [show 3 + (a - 3) = a by omega]; exact get_d s a hlt3
          by_cases o3 : s[a].toNat = 125
          · have o3b : s[a] = 125 := by rw [← UInt8.toNat_inj]; exact o3
            have b3 : ((s[a].toNat : Int) != 125) = false := by rw [o3]; rfl
            have HQ : Hid (escR s.data.toList = if Utf8.valid (N.toNat : Int) = true then ((Utf8.encode (N.toNat : Int)).data.toList, 3 + (a - 3) + 1) else ([], 0)) := by
              show _ = _
              rw [escR_of HP.out HR.out, if_neg (by rw [hlen, hgd, o3b]; simp; omega)]
            have hNt : (N.toNat : Int) = N := by omega
            rw [hNt] at HQ
            cases hv : Utf8.valid N
            · have EN := fun w => Pc.encode_no N w hv
              have HE : Hid (escR s.data.toList = ([], 0)) := by show _ = _; rw [HQ.out, hv]; rfl
              clear o1 o2 o3 o3b HR HQ hgd hv hNt
              go_wp2_with fail
              refine (EN _).mono ?_; rintro e w1 ⟨rfl, hw⟩; obtain rfl := hw.symm
              go_wp2
              go_ret2
              rw [HE.out]
              exact ⟨rfl, Below.refl _ _⟩
            · have EN := fun w => Pc.encode_yes N w hv
              have HE : Hid (escR s.data.toList = ((Utf8.encode N).data.toList, a + 1)) := by show _ = _; rw [HQ.out, hv, show 3 + (a - 3) + 1 = a + 1 by omega]; rfl
              have HB : Hid ((⟨(Utf8.encode N).data.toList.toArray⟩ : ByteArray) = Utf8.encode N) := ba _
              generalize Utf8.encode N = ENC at *
              clear o1 o2 o3 o3b HR HQ hgd hv hNt
              go_wp2_with fail
              refine (EN _).mono ?_; rintro e w1 ⟨rfl, hw⟩; obtain rfl := hw.symm
              go_wp2
              go_ret2
              rw [HE.out]
              first
                | exact ⟨rfl, Below.refl _ _⟩
                | (refine ⟨?_, Below.refl _ _⟩; rw [HB.out]; rfl)
          · have o3b : s[a] ≠ 125 := fun e => o3 (by rw [e]; rfl)
            have b3 : ((s[a].toNat : Int) != 125) = true := by rw [bne_iff_ne]; omega
            have HE : Hid (escR s.data.toList = ([], 0)) := by show _ = _; rw [escR_of HP.out HR.out, if_pos (.inr (.inr (by rw [hgd]; exact o3b)))]
            clear o1 o2 o3 o3b HR hgd
            go_wp2
            go_ret2
            rw [HE.out]
            exact ⟨rfl, Below.refl _ _⟩
      · have hlt : a < s.size := by omega
        have hltI : (a : Int) < (s.size : Int) := by omega
        have hlt9 : (a : Int) < 9 := by omega
        have hba : s.data.toList[3 + (a - 3)]'(by rw [hlen]; omega) = s[a] := by
          have := byte_at s a hlt
          simp only [show 3 + (a - 3) = a by omega]
          exact this
        by_cases hv : hexV s[a].toNat = 16
        · have HR : Hid (hexRun 6 0 0 (s.data.toList.drop 3) = (N.toNat, a - 3)) := hR.out.1.stop (by rw [hlen]; omega) (by rw [hba]; exact hv)
          have Y := fun w => hexDigit_no s[a].toNat w s[a].toNat_lt hv
          clear hR hend hv hba
          by_cases o1 : a = 3
          · have HE : Hid (escR s.data.toList = ([], 0)) := by show _ = _; rw [escR_of HP.out HR.out, if_pos (.inl (by omega))]
            have b1 : ((a : Int) == 3) = true := by rw [beq_iff_eq]; omega
            clear o1 HR
            go_wp2_with fail
            refine (Y _).mono ?_; rintro e w1 ⟨rfl, hw⟩; obtain rfl := hw.symm
            go_wp2
            go_ret2
            rw [HE.out]
            exact ⟨rfl, Below.refl _ _⟩
          have b1 : ((a : Int) == 3) = false := by rw [beq_eq_false_iff_ne]; omega
          by_cases o2 : s.size ≤ a
          · have HE : Hid (escR s.data.toList = ([], 0)) := by show _ = _; rw [escR_of HP.out HR.out, if_pos (.inr (.inl (by rw [hlen]; omega)))]
            have b2 : ((a : Int) == (s.size : Int)) = true := by rw [beq_iff_eq]; omega
            clear o1 HR
            go_wp2_with fail
            refine (Y _).mono ?_; rintro e w1 ⟨rfl, hw⟩; obtain rfl := hw.symm
            go_wp2
            go_ret2
            rw [HE.out]
            exact ⟨rfl, Below.refl _ _⟩
          have b2 : ((a : Int) == (s.size : Int)) = false := by rw [beq_eq_false_iff_ne]; omega
          have hlt3 : a < s.size := by omega
          have hlt3I : (a : Int) < (s.size : Int) := by omega
          have hgd : s.data.toList.getD (3 + (a - 3)) 0 = s[a] := by rw [show 3 + (a - 3) = a by omega]; exact get_d s a hlt3
          by_cases o3 : s[a].toNat = 125
          · have o3b : s[a] = 125 := by rw [← UInt8.toNat_inj]; exact o3
            have b3 : ((s[a].toNat : Int) != 125) = false := by rw [o3]; rfl
            have HQ : Hid (escR s.data.toList = if Utf8.valid (N.toNat : Int) = true then ((Utf8.encode (N.toNat : Int)).data.toList, 3 + (a - 3) + 1) else ([], 0)) := by
              show _ = _
              rw [escR_of HP.out HR.out, if_neg (by rw [hlen, hgd, o3b]; simp; omega)]
            have hNt : (N.toNat : Int) = N := by omega
            rw [hNt] at HQ
            cases hv : Utf8.valid N
            · have EN := fun w => Pc.encode_no N w hv
              have HE : Hid (escR s.data.toList = ([], 0)) := by show _ = _; rw [HQ.out, hv]; rfl
              clear o1 o2 o3 o3b HR HQ hgd hv hNt
              go_wp2_with fail
              refine (Y _).mono ?_; rintro e w1 ⟨rfl, hw⟩; obtain rfl := hw.symm
              go_wp2_with fail
              refine (EN _).mono ?_; rintro e w1 ⟨rfl, hw⟩; obtain rfl := hw.symm
              go_wp2
              go_ret2
              rw [HE.out]
              exact ⟨rfl, Below.refl _ _⟩
            · have EN := fun w => Pc.encode_yes N w hv
              have HE : Hid (escR s.data.toList = ((Utf8.encode N).data.toList, a + 1)) := by show _ = _; rw [HQ.out, hv, show 3 + (a - 3) + 1 = a + 1 by omega]; rfl
              have HB : Hid ((⟨(Utf8.encode N).data.toList.toArray⟩ : ByteArray) = Utf8.encode N) := ba _
              generalize Utf8.encode N = ENC at *
              clear o1 o2 o3 o3b HR HQ hgd hv hNt
              go_wp2_with fail
              refine (Y _).mono ?_; rintro e w1 ⟨rfl, hw⟩; obtain rfl := hw.symm
              go_wp2_with fail
              refine (EN _).mono ?_; rintro e w1 ⟨rfl, hw⟩; obtain rfl := hw.symm
              go_wp2
              go_ret2
              rw [HE.out]
              first
                | exact ⟨rfl, Below.refl _ _⟩
                | (refine ⟨?_, Below.refl _ _⟩; rw [HB.out]; rfl)
          · have o3b : s[a] ≠ 125 := fun e => o3 (by rw [e]; rfl)
            have b3 : ((s[a].toNat : Int) != 125) = true := by rw [bne_iff_ne]; omega
            have HE : Hid (escR s.data.toList = ([], 0)) := by show _ = _; rw [escR_of HP.out HR.out, if_pos (.inr (.inr (by rw [hgd]; exact o3b)))]
            clear o1 o2 o3 o3b HR hgd
            go_wp2_with fail
            refine (Y _).mono ?_; rintro e w1 ⟨rfl, hw⟩; obtain rfl := hw.symm
            go_wp2
            go_ret2
            rw [HE.out]
            exact ⟨rfl, Below.refl _ _⟩
        · have HS := hide (hR.out.1.step (by omega) (by rw [hlen]; omega) (by rw [hba]; exact hv))
          rw [hba] at HS
          have Y := fun w => hexDigit_yes s[a].toNat w s[a].toNat_lt hv
          have hvl := hexV_le s[a].toNat
          have hd : hexV s[a].toNat < 16 := by omega
          have hPW := hide (pow_lt hR.out.2 hd)
          have hn20 : N.toNat < 1048576 := Nat.lt_of_lt_of_le hR.out.2 (Nat.le_trans (Nat.pow_le_pow_right (by omega) (show a - 3 ≤ 5 by omega)) (by decide))
          have ho := or_i32 N.toNat _ hn20 hd
          rw [show (N.toNat : Int) = N by omega] at ho
          have HO : Hid (bits .or .i32 (N * 16) (hexV s[a].toNat : Int) = N * 16 + (hexV s[a].toNat : Int)) := by show _ = _; rw [ho]; omega
          have HS2 : Hid (Run s.data.toList (N * 16 + (hexV s[a].toNat : Int)).toNat (a + 1 - 3) ∧ (N * 16 + (hexV s[a].toNat : Int)).toNat < 16 ^ (a + 1 - 3)) := by
            rw [show (N * 16 + (hexV s[a].toNat : Int)).toNat = 16 * N.toNat + hexV s[a].toNat by omega, show a + 1 - 3 = a - 3 + 1 by omega]
            exact ⟨HS.out, hPW.out⟩
          obtain ⟨D, hD⟩ : ∃ D : Int, (hexV s[a].toNat : Int) = D := ⟨_, rfl⟩
          have hD0 : 0 ≤ D := by omega
          have hD1 : D < 16 := by omega
          have hN2 : N < 1048576 := by omega
          rw [hD] at HO HS2
          simp only [hD] at Y
          clear hR hend hv hba HS hPW hn20 ho hD hd hvl
          go_wp2_with fail
          refine (Y _).mono ?_; rintro e w1 ⟨rfl, hw⟩; obtain rfl := hw.symm
          go_wp2
          rw [HO.out]
          exact ⟨⟨N * 16 + D, a + 1, rfl, by go_num, by omega, by omega, by omega, by omega, by omega, HS2.out⟩, by simp [intOf]; omega⟩
end Go.Proofs.YtckjededijgjgaaDoor.Uq
namespace Go.Proofs.YtckjededijgjgaaDoor.Uq
open Go.RowKit
set_option linter.unusedVariables false

/-- the escape at the begin of a text, whose first byte is a backslash: what it stands for, how many bytes it takes; 0: it is none -/
def escF (l : List UInt8) : List UInt8 × Nat :=
  if l.length < 2 then ([], 0) else if l.getD 1 0 = 34 then ([34], 2) else if l.getD 1 0 = 92 then ([92], 2) else if l.getD 1 0 = 110 then ([10], 2) else if l.getD 1 0 = 114 then ([13], 2)
  else if l.getD 1 0 = 116 then ([9], 2) else if l.getD 1 0 = 120 then escB l else if l.getD 1 0 = 117 then escR l else ([], 0)
theorem u8_eq {c : UInt8} {n : Nat} (h : c.toNat = n) (hn : n < 256) : c = UInt8.ofNat n := by
  rw [← UInt8.toNat_inj]; simp; omega
theorem one_of (s : ByteArray) (h : 1 < s.size) (c : UInt8) (hc : s[1] = c) : s.extract 1 2 = ⟨#[c]⟩ := by
  apply ByteArray.ext
  apply Array.ext'
  have := Pc.bytes_at s 1 1 (by omega)
  rw [this]
  simp only [List.range_succ, List.range_zero, List.nil_append, List.map_cons, List.map_nil]
  rw [show 1 + 0 = 1 from rfl, Pc.get_at s 1 h, hc]

set_option maxRecDepth 100000 in
set_option maxHeartbeats 1000000 in
theorem escape_any (s : ByteArray) (hs : s.size ≤ 11000000) (w : World) :
    Calls Tryd.prog 104 #[.string s] w fun e w' => e = .returned (.tuple #[.string ⟨(escF s.data.toList).1.toArray⟩, .int .i64 ((escF s.data.toList).2 : Int)]) ∧ Below w.heap.size w w' := by
  have hlen : s.data.toList.length = s.size := by simp
  by_cases h2 : s.size < 2
  · have e : escF s.data.toList = ([], 0) := by unfold escF; rw [if_pos (by omega)]
    rw [e]
    have h2I : (s.size : Int) < 2 := by omega
    clear e hlen
    go_enter Tryd.func104, Tryd.ntmps104
    go_wp2
    go_ret2
    exact ⟨rfl, Below.refl _ _⟩
  · have h1 : 1 < s.size := by omega
    have h2I : (2 : Int) ≤ (s.size : Int) := by omega
    have hg := get_d s 1 h1
    have BE := fun w => byteEscape_any s hs w
    have RE := fun w => runeEscape_any s hs w
    have base : escF s.data.toList = if s[1] = 34 then ([34], 2) else if s[1] = 92 then ([92], 2) else if s[1] = 110 then ([10], 2) else if s[1] = 114 then ([13], 2) else if s[1] = 116 then ([9], 2) else if s[1] = 120 then escB s.data.toList else if s[1] = 117 then escR s.data.toList else ([], 0) := by
      unfold escF; rw [if_neg (by omega), hg]
    have lt := s[1].toNat_lt
    have on := one_of s h1
    clear hg hlen
    by_cases c34 : s[1].toNat = 34
    · have hc : s[1] = 34 := UInt8.toNat_inj.1 (c34.trans rfl)
      rw [hc] at base
      have e : escF s.data.toList = ([34], 2) := by
        rw [base]
        rfl
      rw [e]
      have q : ((s[1].toNat : Int) == 34) = true := by rw [c34]; rfl
      have ho := on 34 hc
      clear e base hc c34 on BE RE
      go_enter Tryd.func104, Tryd.ntmps104
      go_wp2
      go_ret2
      refine ⟨?_, Below.refl _ _⟩
      rw [← ho]
      rfl
    by_cases c92 : s[1].toNat = 92
    · have hc : s[1] = 92 := UInt8.toNat_inj.1 (c92.trans rfl)
      rw [hc] at base
      have e : escF s.data.toList = ([92], 2) := by
        rw [base]
        rfl
      rw [e]
      have q : ((s[1].toNat : Int) == 92) = true := by rw [c92]; rfl
      have q34 : ((s[1].toNat : Int) == 34) = false := by rw [c92]; rfl
      have ho := on 92 hc
      clear e base hc c92 on BE RE
      go_enter Tryd.func104, Tryd.ntmps104
      go_wp2
      go_ret2
      refine ⟨?_, Below.refl _ _⟩
      rw [← ho]
      rfl
    by_cases c110 : s[1].toNat = 110
    · have hc : s[1] = 110 := UInt8.toNat_inj.1 (c110.trans rfl)
      rw [hc] at base
      have e : escF s.data.toList = ([10], 2) := by
        rw [base]
        rfl
      rw [e]
      have q : ((s[1].toNat : Int) == 110) = true := by rw [c110]; rfl
      have q34 : ((s[1].toNat : Int) == 34) = false := by rw [c110]; rfl
      have q92 : ((s[1].toNat : Int) == 92) = false := by rw [c110]; rfl
      clear e base hc c110 on BE RE
      go_enter Tryd.func104, Tryd.ntmps104
      go_wp2
      go_ret2
      exact ⟨rfl, Below.refl _ _⟩
    by_cases c114 : s[1].toNat = 114
    · have hc : s[1] = 114 := UInt8.toNat_inj.1 (c114.trans rfl)
      rw [hc] at base
      have e : escF s.data.toList = ([13], 2) := by
        rw [base]
        rfl
      rw [e]
      have q : ((s[1].toNat : Int) == 114) = true := by rw [c114]; rfl
      have q34 : ((s[1].toNat : Int) == 34) = false := by rw [c114]; rfl
      have q92 : ((s[1].toNat : Int) == 92) = false := by rw [c114]; rfl
      have q110 : ((s[1].toNat : Int) == 110) = false := by rw [c114]; rfl
      clear e base hc c114 on BE RE
      go_enter Tryd.func104, Tryd.ntmps104
      go_wp2
      go_ret2
      exact ⟨rfl, Below.refl _ _⟩
    by_cases c116 : s[1].toNat = 116
    · have hc : s[1] = 116 := UInt8.toNat_inj.1 (c116.trans rfl)
      rw [hc] at base
      have e : escF s.data.toList = ([9], 2) := by
        rw [base]
        rfl
      rw [e]
      have q : ((s[1].toNat : Int) == 116) = true := by rw [c116]; rfl
      have q34 : ((s[1].toNat : Int) == 34) = false := by rw [c116]; rfl
      have q92 : ((s[1].toNat : Int) == 92) = false := by rw [c116]; rfl
      have q110 : ((s[1].toNat : Int) == 110) = false := by rw [c116]; rfl
      have q114 : ((s[1].toNat : Int) == 114) = false := by rw [c116]; rfl
      clear e base hc c116 on BE RE
      go_enter Tryd.func104, Tryd.ntmps104
      go_wp2
      go_ret2
      exact ⟨rfl, Below.refl _ _⟩
    by_cases c120 : s[1].toNat = 120
    · have hc : s[1] = 120 := UInt8.toNat_inj.1 (c120.trans rfl)
      rw [hc] at base
      have e : escF s.data.toList = escB s.data.toList := by
        rw [base]
        rfl
      rw [e]
      have q : ((s[1].toNat : Int) == 120) = true := by rw [c120]; rfl
      have q34 : ((s[1].toNat : Int) == 34) = false := by rw [c120]; rfl
      have q92 : ((s[1].toNat : Int) == 92) = false := by rw [c120]; rfl
      have q110 : ((s[1].toNat : Int) == 110) = false := by rw [c120]; rfl
      have q114 : ((s[1].toNat : Int) == 114) = false := by rw [c120]; rfl
      have q116 : ((s[1].toNat : Int) == 116) = false := by rw [c120]; rfl
      generalize (⟨(escB s.data.toList).1.toArray⟩ : ByteArray) = o1 at *
      generalize (((escB s.data.toList).2 : Nat) : Int) = o2 at *
      clear e base hc c120 on
      go_enter Tryd.func104, Tryd.ntmps104
      go_wp2_with fail
      refine (BE _).mono ?_; rintro e w1 ⟨rfl, hb1⟩
      go_wp2
      go_ret2
      exact ⟨rfl, hb1⟩
    by_cases c117 : s[1].toNat = 117
    · have hc : s[1] = 117 := UInt8.toNat_inj.1 (c117.trans rfl)
      rw [hc] at base
      have e : escF s.data.toList = escR s.data.toList := by
        rw [base]
        rfl
      rw [e]
      have q : ((s[1].toNat : Int) == 117) = true := by rw [c117]; rfl
      have q34 : ((s[1].toNat : Int) == 34) = false := by rw [c117]; rfl
      have q92 : ((s[1].toNat : Int) == 92) = false := by rw [c117]; rfl
      have q110 : ((s[1].toNat : Int) == 110) = false := by rw [c117]; rfl
      have q114 : ((s[1].toNat : Int) == 114) = false := by rw [c117]; rfl
      have q116 : ((s[1].toNat : Int) == 116) = false := by rw [c117]; rfl
      have q120 : ((s[1].toNat : Int) == 120) = false := by rw [c117]; rfl
      generalize (⟨(escR s.data.toList).1.toArray⟩ : ByteArray) = o1 at *
      generalize (((escR s.data.toList).2 : Nat) : Int) = o2 at *
      clear e base hc c117 on
      go_enter Tryd.func104, Tryd.ntmps104
      go_wp2_with fail
      refine (RE _).mono ?_; rintro e w1 ⟨rfl, hb1⟩
      go_wp2
      go_ret2
      exact ⟨rfl, hb1⟩
    have e : escF s.data.toList = ([], 0) := by
      rw [base]
      rw [if_neg (fun h => c34 (by rw [h]; rfl))]
      rw [if_neg (fun h => c92 (by rw [h]; rfl))]
      rw [if_neg (fun h => c110 (by rw [h]; rfl))]
      rw [if_neg (fun h => c114 (by rw [h]; rfl))]
      rw [if_neg (fun h => c116 (by rw [h]; rfl))]
      rw [if_neg (fun h => c120 (by rw [h]; rfl))]
      rw [if_neg (fun h => c117 (by rw [h]; rfl))]
    rw [e]
    have q34 : ((s[1].toNat : Int) == 34) = false := by rw [beq_eq_false_iff_ne]; omega
    have q92 : ((s[1].toNat : Int) == 92) = false := by rw [beq_eq_false_iff_ne]; omega
    have q110 : ((s[1].toNat : Int) == 110) = false := by rw [beq_eq_false_iff_ne]; omega
    have q114 : ((s[1].toNat : Int) == 114) = false := by rw [beq_eq_false_iff_ne]; omega
    have q116 : ((s[1].toNat : Int) == 116) = false := by rw [beq_eq_false_iff_ne]; omega
    have q120 : ((s[1].toNat : Int) == 120) = false := by rw [beq_eq_false_iff_ne]; omega
    have q117 : ((s[1].toNat : Int) == 117) = false := by rw [beq_eq_false_iff_ne]; omega
    clear e base on BE RE c34 c92 c110 c114 c116 c120 c117
    go_enter Tryd.func104, Tryd.ntmps104
    go_wp2
    go_ret2
    exact ⟨rfl, Below.refl _ _⟩
end Go.Proofs.YtckjededijgjgaaDoor.Uq
