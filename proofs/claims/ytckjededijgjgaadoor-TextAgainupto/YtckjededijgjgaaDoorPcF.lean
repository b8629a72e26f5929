import Derived.Lib.DecodeN
import Derived.Test.YtckjededijgjgaaDoorRows
import Derived.WalkKit
import Derived.WalkLawsBesides
import Derived.WalkSpells
import Derived.Outline
import Derived.Lib.Strings
import Derived.RangeFuncNested
import Derived.RangeFuncBound
import Derived.RangeFuncCalls
import Derived.RangeFuncLeaves
import Derived.Shelf.Abstract
import Derived.Shelf.RegionOpen
import Derived.OwnWalkIn
import Derived.TacticsInMore
import Derived.LoopNIn
import Derived.LoopIn
import Derived.Lib.OthersKept
import Derived.Lib.RuneCount
import Derived.RangeFuncBox
import Derived.LoopTactic
import Derived.Maps.AppendAt
namespace Go.Proofs.YtckjededijgjgaaDoor.Pc

/-- how many bytes a rune's encoding has -/
def lenF (r : Nat) : Nat := if r ≤ 127 then 1 else if r ≤ 2047 then 2 else if r ≤ 65535 then 3 else 4

/-- the bytes of a whole rune, by its size -/
def isEnc (n b0 b1 b2 b3 r k : Nat) : Prop :=
  (k = 1 ∧ r < 128 ∧ b0 = r) ∨
  (k = 2 ∧ 128 ≤ r ∧ r < 2048 ∧ 2 ≤ n ∧ b0 = 192 + r / 64 ∧ b1 = 128 + r % 64) ∨
  (k = 3 ∧ 2048 ≤ r ∧ r < 65536 ∧ (r < 55296 ∨ 57343 < r) ∧ 3 ≤ n ∧ b0 = 224 + r / 4096 ∧ b1 = 128 + r / 64 % 64 ∧ b2 = 128 + r % 64) ∨
  (k = 4 ∧ 65536 ≤ r ∧ r ≤ 1114111 ∧ 4 ≤ n ∧ b0 = 240 + r / 262144 ∧ b1 = 128 + r / 4096 % 64 ∧ b2 = 128 + r / 64 % 64 ∧ b3 = 128 + r % 64)

theorem decodeN_cases (n b0 b1 b2 b3 : Nat) (h0 : b0 < 256) (h1 : b1 < 256) (h2 : b2 < 256) (h3 : b3 < 256) :
    (Lib.decodeN n b0 b1 b2 b3 = (65533, 1) ∧ 128 ≤ b0 ∧ ∀ r k, ¬ isEnc n b0 b1 b2 b3 r k) ∨ ∃ r k, Lib.decodeN n b0 b1 b2 b3 = (r, k) ∧ isEnc n b0 b1 b2 b3 r k := by
  unfold Lib.decodeN
  split
  · right; exact ⟨_, _, rfl, .inl ⟨rfl, by omega, rfl⟩⟩
  · split
    · split
      · right; exact ⟨_, _, rfl, .inr (.inl ⟨rfl, by omega, by omega, by omega, by omega, by omega⟩)⟩
      · left; refine ⟨rfl, by omega, ?_⟩
        rintro r k (h | h | h | h) <;> omega
    · split
      · split
        · right; exact ⟨_, _, rfl, .inr (.inr (.inl ⟨rfl, by omega, by omega, by omega, by omega, by omega, by omega, by omega⟩))⟩
        · left; refine ⟨rfl, by omega, ?_⟩
          rintro r k (h | h | h | h) <;> omega
      · split
        · split
          · right; exact ⟨_, _, rfl, .inr (.inr (.inr ⟨rfl, by omega, by omega, by omega, by omega, by omega, by omega, by omega⟩))⟩
          · left; refine ⟨rfl, by omega, ?_⟩
            rintro r k (h | h | h | h) <;> omega
        · left; refine ⟨rfl, by omega, ?_⟩
          rintro r k (h | h | h | h) <;> omega

/-- a rune's bytes fix it -/
theorem isEnc_unique {n b0 b1 b2 b3 r k r' k' : Nat} (h : isEnc n b0 b1 b2 b3 r k) (h' : isEnc n b0 b1 b2 b3 r' k') : r = r' ∧ k = k' := by
  rcases h with h | h | h | h <;> rcases h' with h' | h' | h' | h' <;> constructor <;> omega
end Go.Proofs.YtckjededijgjgaaDoor.Pc
namespace Go.Proofs.YtckjededijgjgaaDoor.Pc
open Go.RowKit

theorem hide {p : Prop} (h : p) : Hid p := h
theorem ret_bool {a b : Bool} (h : a = b) : Ending.returned (.bool a) = .returned (.bool b) := by rw [h]

/-- the size by the number, on Int -/
def lenI (r : Int) : Int := if r ≤ 127 then 1 else if r ≤ 2047 then 2 else if r ≤ 65535 then 3 else 4

set_option maxHeartbeats 400000 in
theorem runeLen_any (r : Int) (w : World) (h0 : 0 ≤ r) (h1 : r ≤ 1114111) (hv : r < 55296 ∨ 57343 < r) :
    Calls Tryd.prog 111 #[.int .i32 r] w fun e w' => e = .returned (.int .i64 (lenI r)) ∧ w' = w := by
  by_cases c1 : r ≤ 127
  · have E := hide (show lenI r = 1 by unfold lenI; rw [if_pos c1])
    go_enter Tryd.func111, Tryd.ntmps111
    go_wp2
    go_ret
    rw [E.out]; exact ⟨rfl, rfl⟩
  · by_cases c2 : r ≤ 2047
    · have E := hide (show lenI r = 2 by unfold lenI; rw [if_neg c1, if_pos c2])
      go_enter Tryd.func111, Tryd.ntmps111
      go_wp2
      go_ret
      rw [E.out]; exact ⟨rfl, rfl⟩
    · by_cases c3 : r ≤ 65535
      · have E := hide (show lenI r = 3 by unfold lenI; rw [if_neg c1, if_neg c2, if_pos c3])
        rcases hv with hv | hv
        all_goals
          go_enter Tryd.func111, Tryd.ntmps111
          go_wp2
          go_ret
          rw [E.out]; exact ⟨rfl, rfl⟩
      · have E := hide (show lenI r = 4 by unfold lenI; rw [if_neg c1, if_neg c2, if_neg c3])
        have hv' : 57343 < r := by omega
        clear hv
        go_enter Tryd.func111, Tryd.ntmps111
        go_wp2
        go_ret
        rw [E.out]; exact ⟨rfl, rfl⟩

/-- does the text begin with U+FFFD's bytes? -/
def preR (l : List UInt8) : Bool := l.take 3 == [239, 191, 189]
theorem preR_ext (s : ByteArray) : ((s.extract 0 3).toList == [239, 191, 189]) = preR s.data.toList := by
  unfold preR; rw [ByteArray.toList_eq, Lib.extract_data]; simp
theorem preR_short (s : ByteArray) (h : (s.size : Int) < 3) : false = preR s.data.toList := by
  have hl : s.data.toList.length < 3 := by simp; omega
  unfold preR
  rw [List.take_of_length_le (by omega)]
  symm
  rw [beq_eq_false_iff_ne]
  intro e; rw [e] at hl; simp at hl

set_option maxHeartbeats 400000 in
theorem hasPrefixR_any (s : ByteArray) (w : World) :
    Calls Tryd.prog 68 #[.string s, .string ⟨#[239, 191, 189]⟩] w fun e w' => e = .returned (.bool (preR s.data.toList)) ∧ w' = w := by
  by_cases h : 3 ≤ s.size
  · have h' : (3 : Int) ≤ (s.size : Int) := by omega
    go_enter Tryd.func68, Tryd.ntmps68
    go_wp2
    go_ret
    exact ⟨ret_bool (preR_ext s), rfl⟩
  · have h' : (s.size : Int) < 3 := by omega
    go_enter Tryd.func68, Tryd.ntmps68
    go_wp2
    go_ret
    exact ⟨ret_bool (preR_short s h'), rfl⟩
theorem hasPrefixR_is {s : ByteArray} {b : Bool} (h : Hid (preR s.data.toList = b)) (w : World) :
    Calls Tryd.prog 68 #[.string s, .string ⟨#[239, 191, 189]⟩] w fun e w' => e = .returned (.bool b) ∧ w' = w := by
  have := hasPrefixR_any s w
  rw [h.out] at this
  exact this

set_option maxHeartbeats 400000 in
theorem pieceAt_plain (s : ByteArray) (pos : Nat) (r : Int) (w : World) (h0 : 0 ≤ r) (h1 : r ≤ 1114111) (hv : r < 55296 ∨ 57343 < r) (hne : (r == 65533) = false) :
    Calls Tryd.prog 90 #[.string s, .int .i64 (pos : Int), .int .i32 r] w fun e w' => e = .returned (.agg #[.int .i32 r, .int .i64 (pos : Int), .int .i64 (lenI r), .bool false]) ∧ ∃ c, w' = w.alloc (.cells c 55) := by
  go_enter Tryd.func90, Tryd.ntmps90
  go_wp2_with (go_at_call 111; refine (runeLen_any _ _ h0 h1 hv).mono ?_; rintro e w' ⟨rfl, rfl⟩)
  exact bodyPost_ret (v := .agg #[.int .i32 r, .int .i64 (pos : Int), .int .i64 (lenI r), .bool false]) (by simp [results, Tryd.results90, go_sem]) rfl ⟨rfl, _, rfl⟩

set_option maxHeartbeats 400000 in
theorem pieceAt_whole (s : ByteArray) (pos : Nat) (w : World) (hp : pos < s.size) (_hs : s.size ≤ 9223372036854775807) (hx : Hid (preR (s.extract pos s.size).data.toList = true)) :
    Calls Tryd.prog 90 #[.string s, .int .i64 (pos : Int), .int .i32 65533] w fun e w' => e = .returned (.agg #[.int .i32 65533, .int .i64 (pos : Int), .int .i64 3, .bool false]) ∧ ∃ c, w' = w.alloc (.cells c 55) := by
  go_enter Tryd.func90, Tryd.ntmps90
  go_wp2_with (first | (go_at_call 68; refine (hasPrefixR_is hx _).mono ?_; rintro e w' ⟨rfl, rfl⟩) | (go_at_call 111; refine (runeLen_any _ _ (by omega) (by omega) (by omega)).mono ?_; rintro e w' ⟨rfl, rfl⟩))
  exact bodyPost_ret (v := .agg #[.int .i32 65533, .int .i64 (pos : Int), .int .i64 3, .bool false]) (by simp [results, Tryd.results90, go_sem, lenI]) rfl ⟨rfl, _, rfl⟩

set_option maxHeartbeats 400000 in
theorem pieceAt_broken (s : ByteArray) (pos : Nat) (w : World) (hp : pos < s.size) (_hs : s.size ≤ 9223372036854775807) (hx : Hid (preR (s.extract pos s.size).data.toList = false)) :
    Calls Tryd.prog 90 #[.string s, .int .i64 (pos : Int), .int .i32 65533] w fun e w' => e = .returned (.agg #[.int .i32 (s[pos].toNat : Int), .int .i64 (pos : Int), .int .i64 1, .bool true]) ∧ ∃ c, w' = w.alloc (.cells c 55) := by
  have hb : (s[pos].toNat : Int) ≤ 255 := by have := s[pos].toNat_lt; omega
  go_enter Tryd.func90, Tryd.ntmps90
  go_wp2_with (first | (go_at_call 68; refine (hasPrefixR_is hx _).mono ?_; rintro e w' ⟨rfl, rfl⟩) | (go_at_call 111; refine (runeLen_any _ _ (by omega) (by omega) (by omega)).mono ?_; rintro e w' ⟨rfl, rfl⟩))
  exact bodyPost_ret (v := .agg #[.int .i32 (s[pos].toNat : Int), .int .i64 (pos : Int), .int .i64 1, .bool true]) (by simp [results, Tryd.results90, go_sem]) rfl ⟨rfl, _, rfl⟩
end Go.Proofs.YtckjededijgjgaaDoor.Pc
namespace Go.Proofs.YtckjededijgjgaaDoor.Pc
open Go.RowKit

/-- a piece: rune, place, size, broken -/
abbrev P4 := Int × Int × Int × Bool
def encP (x : P4) : Value := .agg #[.int .i32 x.1, .int .i64 x.2.1, .int .i64 x.2.2.1, .bool x.2.2.2]

theorem get_at (s : ByteArray) (pos : Nat) (h : pos < s.size) : s.get! pos = s[pos] := by
  simp [ByteArray.get!, getElem!_pos, h]
  rfl

/-- the piece at a place -/
def pcF (s : ByteArray) (pos : Nat) : P4 :=
  if Utf8.decode s pos = (65533, 1) then (((s.get! pos).toNat : Int), (pos : Int), 1, true) else (((Utf8.decode s pos).1 : Int), (pos : Int), ((Utf8.decode s pos).2 : Int), false)

/-- the bytes at a place, as isEnc wants them -/
def encAt (s : ByteArray) (pos r k : Nat) : Prop := isEnc (s.size - pos) (s.get! pos).toNat (s.get! (pos + 1)).toNat (s.get! (pos + 2)).toNat (s.get! (pos + 3)).toNat r k

theorem decode_cases (s : ByteArray) (pos : Nat) :
    (Utf8.decode s pos = (65533, 1) ∧ 128 ≤ (s.get! pos).toNat ∧ ∀ r k, ¬ encAt s pos r k) ∨ ∃ r k, Utf8.decode s pos = (r, k) ∧ encAt s pos r k := by
  rw [Lib.decode_at]
  exact decodeN_cases _ _ _ _ _ (s.get! pos).toNat_lt (s.get! (pos + 1)).toNat_lt (s.get! (pos + 2)).toNat_lt (s.get! (pos + 3)).toNat_lt

theorem take3 (l : List UInt8) (a b c : UInt8) : l.take 3 = [a, b, c] ↔ l[0]? = some a ∧ l[1]? = some b ∧ l[2]? = some c := by
  match l with
  | [] => simp
  | [x] => simp
  | [x, y] => simp
  | x :: y :: z :: t => simp

theorem drop_at (s : ByteArray) (pos i : Nat) (h : pos + i < s.size) : (s.extract pos s.size).data.toList[i]? = some (s.get! (pos + i)) := by
  rw [Lib.extract_data, List.getElem?_take_of_lt (by omega), List.getElem?_drop, List.getElem?_eq_getElem (by simpa using h), get_at s _ h]
  rfl
theorem drop_none (s : ByteArray) (pos i : Nat) (h : ¬ pos + i < s.size) : (s.extract pos s.size).data.toList[i]? = none := by
  rw [Lib.extract_data, List.getElem?_eq_none]
  simp; omega

theorem preR_iff (s : ByteArray) (pos : Nat) : preR (s.extract pos s.size).data.toList = true ↔ (pos + 3 ≤ s.size ∧ (s.get! pos).toNat = 239 ∧ (s.get! (pos + 1)).toNat = 191 ∧ (s.get! (pos + 2)).toNat = 189) := by
  unfold preR
  rw [beq_iff_eq, take3]
  by_cases h : pos + 2 < s.size
  · rw [drop_at s pos 0 (by omega), drop_at s pos 1 (by omega), drop_at s pos 2 h]
    simp only [Option.some.injEq, Nat.add_zero, ← UInt8.toNat_inj]
    constructor
    · rintro ⟨a, b, c⟩; exact ⟨by omega, a, b, c⟩
    · rintro ⟨_, a, b, c⟩; exact ⟨a, b, c⟩
  · rw [drop_none s pos 2 h]
    constructor
    · rintro ⟨_, _, c⟩; cases c
    · rintro ⟨a, _⟩; omega

theorem encAt_len {s : ByteArray} {pos r k : Nat} (h : encAt s pos r k) : lenI (r : Int) = (k : Int) ∧ (0 : Int) ≤ r ∧ (r : Int) ≤ 1114111 ∧ ((r : Int) < 55296 ∨ (57343 : Int) < r) ∧ 1 ≤ k ∧ k ≤ 4 := by
  unfold lenI
  rcases h with h | h | h | h
  · rw [if_pos (by omega)]; omega
  · rw [if_neg (by omega), if_pos (by omega)]; omega
  · rw [if_neg (by omega), if_neg (by omega), if_pos (by omega)]; omega
  · rw [if_neg (by omega), if_neg (by omega), if_neg (by omega)]; omega

/-- what pieceAt answers of what the range tells -/
theorem pieceAt_any (s : ByteArray) (pos : Nat) (w : World) (hp : pos < s.size) (hs : s.size ≤ 9223372036854775807) :
    Calls Tryd.prog 90 #[.string s, .int .i64 (pos : Int), .int .i32 ((Utf8.decode s pos).1 : Int)] w fun e w' => e = .returned (encP (pcF s pos)) ∧ ∃ c, w' = w.alloc (.cells c 55) := by
  rcases decode_cases s pos with ⟨hd, _, hno⟩ | ⟨r, k, hd, he⟩
  · have e : encP (pcF s pos) = .agg #[.int .i32 (s[pos].toNat : Int), .int .i64 (pos : Int), .int .i64 1, .bool true] := by
      unfold pcF encP; rw [if_pos hd, get_at s pos hp]
    rw [e, hd]
    refine pieceAt_broken s pos w hp hs ?_
    show _ = false
    cases hx : preR (s.extract pos s.size).data.toList with
    | false => rfl
    | true =>
      rw [preR_iff] at hx
      exact absurd (show encAt s pos 65533 3 from .inr (.inr (.inl ⟨rfl, by omega, by omega, by omega, by omega, by omega, by omega, by omega⟩))) (hno _ _)
  · obtain ⟨h1, h2, h3, h4, h5, h6⟩ := encAt_len he
    have hne : ¬ (Utf8.decode s pos = (65533, 1)) := by
      rw [hd]; intro e
      simp only [Prod.mk.injEq] at e
      obtain ⟨rfl, rfl⟩ := e
      simp [lenI] at h1
    have e : encP (pcF s pos) = .agg #[.int .i32 (r : Int), .int .i64 (pos : Int), .int .i64 (lenI r), .bool false] := by
      unfold pcF encP; rw [if_neg hne, hd, h1]
    rw [e, hd]
    by_cases hr : r = 65533
    · subst hr
      have hk : k = 3 := by unfold lenI at h1; simp at h1; omega
      subst hk
      have hx : preR (s.extract pos s.size).data.toList = true := by
        rw [preR_iff]
        rcases he with he | he | he | he <;> omega
      exact pieceAt_whole s pos w hp hs hx
    · exact pieceAt_plain s pos r w h2 h3 h4 (beq_eq_false_iff_ne.2 (by omega))
end Go.Proofs.YtckjededijgjgaaDoor.Pc
namespace Go.Proofs.YtckjededijgjgaaDoor.Pc
open Go.RowKit Go.Shelf
attribute [local go_sem] Oper.semAt_some

def piecesFrom (s : ByteArray) : Nat → Nat → List P4
  | 0, _ => []
  | f + 1, pos => if pos < s.size then pcF s pos :: piecesFrom s f (pos + (Utf8.decode s pos).2) else []
/-- the pieces of a string -/
def pieces (s : ByteArray) : List P4 := piecesFrom s s.size 0

theorem piecesFrom_end (s : ByteArray) (f pos : Nat) (h : ¬ pos < s.size) : piecesFrom s f pos = [] := by
  cases f with
  | zero => rfl
  | succ f => rw [piecesFrom, if_neg h]

/-- what a round keeps: walks, and the string's box -/
def Kp (Bn : Nat) (W W' : World) : Prop := KeepsWalks W W' ∧ ∀ v, Boxed W Bn 9 v → Boxed W' Bn 9 v

set_option maxRecDepth 100000 in
set_option maxHeartbeats 1000000 in
theorem cut1_in (n : Nat) (hn : 1 ≤ n) (l Bn : Nat) (s : ByteArray) (hs : s.size ≤ 9223372036854775807) (J Jx : List P4 → World → Prop)
    (hY : ∀ pre x W, J pre W → pre.length < s.size → YieldAt Fence.wide (n - 1) Tryd.prog l #[encP x] W fun e W' =>
      (e = .returned (.bool true) ∧ J (pre ++ [x]) W' ∧ Kp Bn W W') ∨ (e = .returned (.bool false) ∧ Jx (pre ++ [x]) W'))
    (W : World) (hJ : AbidesFrom W.heap.size J) (hc : Boxed W Bn 9 (.string s)) (h0 : J [] W) :
    CallsIn Fence.wide n Tryd.prog 89 #[.func (.yield l) #[] #[], .pointer (some ⟨Bn, 0, none⟩)] W fun e W' => (∃ v, e = .returned v) ∧
      ((∃ ys, ys = pieces s ∧ J ys W') ∨ (∃ pre, pre <+: pieces s ∧ Jx pre W')) := by
  refine callsIn_of_wp Tryd.func89 rfl trivial ?_ rfl
  simp only [Tryd.ntmps89, List.size_toArray, List.length_cons, List.length_nil, Nat.reduceAdd, Nat.reduceSub, Array.replicate_succ, Array.replicate_zero, List.push_toArray, List.append_toArray, List.nil_append, List.cons_append]
  have hcc := hc.cell
  gi_wp2
  gi_loopw [3] (fun _ wr => ∃ (pos f : Nat) (pre : List P4), wr.heap[W.heap.size]? = some (.stringIter s pos) ∧ J pre wr ∧ pieces s = pre ++ piecesFrom s f pos ∧ s.size ≤ pos + f ∧ pre.length ≤ pos ∧ Boxed wr Bn 9 (.string s))
    (fun _ wr => s.size - wr.iterPos W.heap.size)
  case atStart =>
    exact ⟨0, s.size, [], World.iter_heap _ _ _, hJ [] W _ none h0 (World.grownBy_alloc W _ none) (fun r e => by cases e), by simp [pieces], by omega, Nat.le_refl _, hc.alloc _⟩
  case round =>
    obtain ⟨pos, f, pre, hit, hJs, hx, hf, hl, hB⟩ := hrel
    have hK : W.heap.size < wr.heap.size := (Array.getElem?_eq_some_iff.1 hit).1
    by_cases hp : pos < s.size
    · have hnx : ∀ ty, (Instr.next (.pointer (some ⟨W.heap.size, 0, none⟩)) true ty).run Tryd.prog wr = _ := fun ty => Lib.run_next_any_at wr W.heap.size s pos ty hit hp
      have hB2 : Boxed (wr.iterAt W.heap.size s (pos + (Utf8.decode s pos).2)) Bn 9 (.string s) := (Lib.iterAt_other wr W.heap.size Bn s _ (Nat.ne_of_lt hc.lt)).trans hB
      have hcw := hB2.cell
      have hJ2 : J pre (wr.iterAt W.heap.size s (pos + (Utf8.decode s pos).2)) := hJ pre wr _ (some W.heap.size) hJs (grownBy_putObj' wr W.heap.size _) (fun r e => by cases e; exact ⟨Nat.le_refl _, _, hit, rfl⟩)
      have hit2 := Lib.iterAt_heap wr W.heap.size s pos (pos + (Utf8.decode s pos).2) hit
      have hw1 := Lib.decode_width_pos s pos hp
      have hsz : (wr.iterAt W.heap.size s (pos + (Utf8.decode s pos).2)).heap.size = wr.heap.size := Lib.iterAt_size _ _ _ _
      obtain ⟨f, rfl⟩ : ∃ f', f = f' + 1 := ⟨f - 1, by omega⟩
      have hstep : pieces s = (pre ++ [pcF s pos]) ++ piecesFrom s f (pos + (Utf8.decode s pos).2) := by rw [hx, piecesFrom, if_pos hp]; simp
      have HX := hide hstep
      clear hstep hx
      gi_wp2_with fail
      refine ⟨trivial, (callsIn_wide.2 (pieceAt_any s pos _ hp hs)).mono ?_⟩
      rintro e w' ⟨rfl, c, rfl⟩
      generalize wr.iterAt W.heap.size s (pos + (Utf8.decode s pos).2) = wi at hJ2 hB2 hcw hit2 hsz ⊢
      have hJ3 : J pre (wi.alloc (.cells c 55)) := hJ pre wi _ none hJ2 (World.grownBy_alloc wi _ none) (fun r e => by cases e)
      obtain ⟨fn, tmps, assign, body, hy, hR⟩ := hY pre (pcF s pos) _ hJ3 (by omega)
      gi_wp2
      refine hR.mono ?_
      rintro e W3 (⟨rfl, hJ4, hk3⟩ | ⟨rfl, hJx3⟩)
      · gi_wp2
        have hit3 : W3.heap[W.heap.size]? = some (.stringIter s (pos + (Utf8.decode s pos).2)) := hk3.1.same _ _ ((Below.heap_alloc wi _ W.heap.size (by omega)).trans hit2) rfl
        go_roundw
        case rel => exact ⟨_, f, pre ++ [pcF s pos], hit3, hJ4, HX.out, by omega, by simp; omega, hk3.2 _ (hB2.alloc _)⟩
        case measure =>
          have e1 : W3.iterPos W.heap.size = pos + (Utf8.decode s pos).2 := by simp [World.iterPos, hit3]
          have e2 : wr.iterPos W.heap.size = pos := by simp [World.iterPos, hit]
          rw [e1, e2]; omega
      · gi_wp2
        refine bodyPost_ret (results_none rfl _ _ _) rfl ?_
        exact ⟨⟨_, rfl⟩, .inr ⟨pre ++ [pcF s pos], ⟨_, HX.out.symm⟩, hJx3⟩⟩
    · have hnx : ∀ ty, (Instr.next (.pointer (some ⟨W.heap.size, 0, none⟩)) true ty).run Tryd.prog wr = _ := fun ty => Lib.run_next_end_at wr W.heap.size s pos ty hit hp
      rw [piecesFrom_end s f pos hp, List.append_nil] at hx
      have HX := hide hx
      clear hx
      gi_wp2
      go_end0
      exact ⟨⟨_, rfl⟩, .inl ⟨pre, HX.out.symm, hJs⟩⟩

/-- the maker: the string is boxed, the function value captures the box -/
theorem cut_in (n : Nat) (s : ByteArray) (w : World) :
    CallsIn Fence.wide n Tryd.prog 50 #[.string s] w fun e w' => e = .returned (.func (.func 89) #[] #[.pointer (some ⟨w.heap.size, 0, none⟩)]) ∧ w' = w.alloc (.cells #[.string s] 9) := by
  refine callsIn_of_wp Tryd.func50 rfl trivial ?_ rfl
  simp only [Tryd.ntmps50, List.size_toArray, List.length_cons, List.length_nil, Nat.reduceAdd, Nat.reduceSub, Array.replicate_succ, Array.replicate_zero, List.push_toArray, List.append_toArray, List.nil_append, List.cons_append]
  gi_wp2
  go_ret
  exact ⟨rfl, rfl⟩

/-- the iterator's contract -/
theorem cut_stops (n : Nat) (hn : 1 ≤ n) (Bn : Nat) (s : ByteArray) (hs : s.size ≤ 9223372036854775807) (w : World) (hc : Boxed w Bn 9 (.string s)) :
    SeqStopsK Fence.wide n Tryd.prog 89 #[.pointer (some ⟨Bn, 0, none⟩)] (fun x : P4 => #[encP x]) (Kp Bn) (fun ys => ys = pieces s) (fun pre => pre <+: pieces s) s.size w := fun l J Jx W hW hJ _ hY h0 =>
  cut1_in n hn l Bn s hs J Jx hY W hJ ((hW.block Bn hc.lt).trans hc) h0

theorem kp_t {Bn : Nat} {A B C : World} (h : Kp Bn A B) (k : Kp Bn B C) : Kp Bn A C := ⟨h.1.trans k.1, fun v hv => k.2 v (h.2 v hv)⟩
theorem kp_b {Bn : Nat} {w : World} (W : World) (l : Nat) (o o' : Obj) (hl : w.heap.size ≤ l) (h : W.heap[l]? = some o) (hc : o.isCells = false) (hw : o.isWalk = false) : Kp Bn W (W.putObj l o') :=
  ⟨walksK_b (w := w) W l o o' hl h hc hw, fun v hv => (World.putObj_heap_other (fun e => by
    subst e
    have : W.heap[Bn]? = some (.cells #[v] 9) := hv
    rw [h] at this
    cases this
    cases hc)).trans hv⟩
theorem kp_others {Bn : Nat} {W W' : World} (h : KeepsOthers W W') (hb : ∀ v, Boxed W Bn 9 v → Boxed W' Bn 9 v) : Kp Bn W W' := ⟨h.walks, hb⟩

set_option maxHeartbeats 1000000 in
/-- how many runes a string has -/
theorem runeCount_any (s : ByteArray) (w : World) (hs : s.size < 9223372036854775807) :
    Calls Tryd.prog 72 #[.string s] w fun e w' => e = .returned (.int .i64 (Lib.runeCount s)) ∧ ∃ pos, w' = w.iter s pos := by
  go_enter Tryd.func72, Tryd.ntmps72
  go_wp2
  go_loopw [2] (fun n w' => ∃ (pos b acc : Nat), w' = w.iter s pos ∧ n = .int .i64 acc ∧ acc + Lib.runeCountFrom s b pos = Lib.runeCount s ∧ s.size ≤ pos + b ∧ acc ≤ pos) (fun _ w' => s.size - w'.iterPos w.heap.size)
  case atStart => exact ⟨0, s.size, 0, rfl, rfl, by simp [Lib.runeCount], by omega, Nat.le_refl _⟩
  case round =>
    obtain ⟨pos, b, acc, rfl, rfl, hc, hb, ha⟩ := hrel
    by_cases hp : pos < s.size
    · have hnx : ∀ ty, (Instr.next (.pointer (some ⟨w.heap.size, 0, none⟩)) true ty).run Tryd.prog (w.iter s pos) = _ := fun ty => run_next_any w s pos ty hp
      have hwd := Lib.decode_width_pos s pos hp
      go_wp2
      go_roundw
      case rel =>
        cases b with
        | zero => omega
        | succ b =>
          refine ⟨pos + (Utf8.decode s pos).2, b, acc + 1, rfl, by go_num, ?_, by omega, by omega⟩
          rw [← hc]
          simp [Lib.runeCountFrom, hp]
          omega
      case measure =>
        simp
        omega
    · have hnx : ∀ ty, (Instr.next (.pointer (some ⟨w.heap.size, 0, none⟩)) true ty).run Tryd.prog (w.iter s pos) = _ := fun ty => run_next_end w s pos ty hp
      go_wp2
      go_ret
      rw [Lib.runeCountFrom_end s b pos hp, Nat.add_zero] at hc
      subst hc
      exact ⟨rfl, _, rfl⟩
end Go.Proofs.YtckjededijgjgaaDoor.Pc
namespace Go.Proofs.YtckjededijgjgaaDoor.Pc
open Go.RowKit Go.Shelf
attribute [local go_sem] Oper.semAt_some

theorem info55 : (Tryd.prog.info? 55).map (fun i => (i.zero, i.size, i.bytes)) = some (some (.agg #[.int .i32 0, .int .i64 0, .int .i64 0, .bool false]), 4, 32) := by kernel_rfl

/-- a piece's four cells -/
def cells4 (x : P4) : List Value := [.int .i32 x.1, .int .i64 x.2.1, .int .i64 x.2.2.1, .bool x.2.2.2]
def cellsL (l : List P4) : List Value := l.flatMap cells4

theorem addP (R off j : Nat) : (⟨R, off, none⟩ : Addr).add j = ⟨R, off + j, none⟩ := by unfold Addr.add; split <;> simp_all
theorem new4 (W : World) (x : P4) (j : Nat) (u : Value) (h : (cells4 x)[j]? = some u) : (W.alloc (.cells #[.int .i32 x.1, .int .i64 x.2.1, .int .i64 x.2.2.1, .bool x.2.2.2] 55)).cell? ((⟨W.heap.size, 0, none⟩ : Addr).add j) = some u := by
  rw [addP, World.cell?_alloc_new, Nat.zero_add]
  simpa [cells4] using h
theorem one4 (x : P4) : ∀ u ∈ cells4 x, u.oneCell' = true := by
  intro u hu
  simp [cells4] at hu
  rcases hu with rfl | rfl | rfl | rfl <;> rfl
theorem cellsL_snoc (pre : List P4) (x : P4) : cellsL (pre ++ [x]) = cellsL pre ++ cells4 x := by simp [cellsL]

set_option maxRecDepth 100000 in
set_option maxHeartbeats 1000000 in
theorem pieces_in (n : Nat) (hn : 4 ≤ n) (s : ByteArray) (hs : s.size ≤ 1048576) (w : World) :
    CallsIn Fence.wide n Tryd.prog 34 #[.string s] w fun e W' => ∃ v, e = .returned v ∧ W'.ownsRow w.heap.size 55 4 v (pieces s).length (cellsL (pieces s)) ∧ Below w.heap.size w W' := by
  have h1 : 1 ≤ n := by omega
  obtain ⟨i0, hi, hz0, hz1, hz2⟩ := info_parts info55
  refine callsIn_of_wp_marks Tryd.func34 rfl trivial ?_ rfl
  simp only [Tryd.ntmps34, List.size_toArray, List.length_cons, List.length_nil, Nat.reduceAdd, Nat.reduceSub, Array.replicate_succ, Array.replicate_zero, List.push_toArray, List.append_toArray, List.nil_append, List.cons_append]
  have hrc := Lib.runeCount_le s
  gi_wp2_with fail
  refine ⟨trivial, (callsIn_wide.2 (runeCount_any s _ (by omega))).mono ?_⟩
  rintro e w' ⟨rfl, pos, rfl⟩
  have hBi : Below w.heap.size w (w.iter s pos) := (Below.refl _ w).alloc (Nat.le_refl _) _
  generalize w.iter s pos = wi at hBi ⊢
  gi_wp2_with (first | (gi_at_make; refine wpListIn_make_own _ rfl _ _ 52 rfl w.heap.size 55 i0 _ 4 Tryd.underlying52 hi hz0 hz1 .i64 .i64 _ (Lib.runeCount s) rfl rfl rfl ?b2 ?b3 ?b4 ?_; rotate_left 3; intro w2 hown0 hg0) | (refine ⟨trivial, ?_⟩; gi_at_call 50; refine (cut_in _ _ _).mono ?_; rintro e w' ⟨rfl, rfl⟩))

  rotate_left
  · rw [hz2]; omega
  · unfold maxLen; omega
  · exact hBi.size
  have hB2 : Below w.heap.size w w2 := hBi.grown hg0 hBi.size (fun k e => by cases e)
  have hsz2 : w.heap.size ≤ w2.heap.size := hB2.size
  obtain ⟨B, hBe⟩ : ∃ B, w2.heap.size = B := ⟨_, rfl⟩
  have bO := (Boxed.new w2 52 (.slice (some ⟨wi.heap.size, 0, none⟩) 0 (Lib.runeCount s))).alloc (.cells #[.string s] 9)
  have bN := Boxed.new (w2.alloc (.cells #[.slice (some ⟨wi.heap.size, 0, none⟩) 0 (Lib.runeCount s)] 52)) 9 (.string s)
  simp only [World.size_alloc] at bN
  have hB3 : Below w.heap.size w ((w2.alloc (.cells #[.slice (some ⟨wi.heap.size, 0, none⟩) 0 (Lib.runeCount s)] 52)).alloc (.cells #[.string s] 9)) := (hB2.alloc hB2.size _).alloc (by simp; omega) _
  have hrow0 := (hown0.alloc (.cells #[.slice (some ⟨wi.heap.size, 0, none⟩) 0 (Lib.runeCount s)] 52)).alloc (.cells #[.string s] 9)
  have hsz3 : ((w2.alloc (.cells #[.slice (some ⟨wi.heap.size, 0, none⟩) 0 (Lib.runeCount s)] 52)).alloc (.cells #[.string s] 9)).heap.size = w2.heap.size + 2 := by simp
  obtain ⟨W0, hW0⟩ : ∃ W0, (w2.alloc (.cells #[.slice (some ⟨wi.heap.size, 0, none⟩) 0 (Lib.runeCount s)] 52)).alloc (.cells #[.string s] 9) = W0 := ⟨_, rfl⟩
  rw [hW0] at bO bN hB3 hrow0 hsz3 ⊢
  clear hW0 hown0 hg0
  rw [hBe] at bO bN hsz3 hsz2 ⊢
  refine wpIn_rangeFunc_ownH rfl h1 (gf := 89) (lb := #[.pointer (some ⟨B + 1, 0, none⟩)]) rfl trivial (enters_of Tryd.func89 (by kernel_rfl) rfl)
    (cut_stops (n - 1) (by omega) (B + 1) s (by omega) W0 bN) kp_t kp_b (Below.refl _ _) (fun _ => rfl)
    (fun pre W => (∃ v, Boxed W B 52 v ∧ W.ownsRow w.heap.size 55 4 v pre.length (cellsL pre) ∧ True) ∧ (Boxed W (B + 1) 9 (.string s) ∧ Below w.heap.size w W))
    (fun _ _ _ => False)
    (OwnFrom.and (Own.from (holdsRow_own w.heap.size B 52 55 4 (fun pre => pre.length) (fun pre => cellsL pre) (fun _ _ => True)) _) (OwnFrom.and (Own.from (boxed_own _ _ _) _) (ownFrom_below (Nat.le_refl _) (by omega))))
    (fun _ _ _ _ _ hs _ _ => hs)
    ⟨⟨_, bO, hrow0, trivial⟩, bN, hB3⟩
    (fun x a' W => ∃ Bx, W.heap[Bx]? = some (.cells (cells4 x).toArray 55) ∧ a' = { tmps := #[.string s, undef, .slice none 0 0, .pointer (some ⟨B, 0, none⟩), .pointer (some ⟨Bx, 0, none⟩), .string s, .int .i64 (Lib.runeCount s : Int), .slice (some ⟨wi.heap.size, 0, none⟩) 0 (Lib.runeCount s), .string s, .func (.func 89) #[] #[.pointer (some ⟨B + 1, 0, none⟩)], encP x, undef, undef, undef, undef, undef], defers := [] })
    (fun x a' _ X Y row hs hg hr => by
      obtain ⟨Bx, h1, h2⟩ := hs
      refine ⟨Bx, (hg.block Bx (Array.getElem?_eq_some_iff.1 h1).1 (fun e => ?_)).trans h1, h2⟩
      obtain ⟨_, o, ho, hc⟩ := hr Bx e.symm
      rw [h1] at ho; cases ho; cases hc)
    ?assign ?body ?done ?stop
  case assign =>
    rintro l pre x W K ⟨⟨v, hv, hrow, _⟩, hS, hB1⟩ hK
    simp only [encP]
    gi_wp2
    exact hK _ _ ((KeepsOthers.alloc _ _).from _) (kp_others (KeepsOthers.alloc _ _) (fun v hv => hv.alloc _)) ⟨⟨v, hv.alloc _, hrow.alloc _, trivial⟩, hS.alloc _, hB1.alloc hB1.size _⟩ ⟨W.heap.size, World.alloc_heap_new W _, rfl⟩
  case body =>
    rintro l pre x a' W hl _ ⟨⟨v, hv, hrow, _⟩, hS, hB1⟩ ⟨Bx, hX, rfl⟩ hlt
    have hc := hv.cell
    have x0 : W.cell? ⟨Bx, 0, none⟩ = some (.int .i32 x.1) := by simp [World.cell?, hX, cells4]
    have x1 : W.cell? ⟨Bx, 1, none⟩ = some (.int .i64 x.2.1) := by simp [World.cell?, hX, cells4]
    have x2 : W.cell? ⟨Bx, 2, none⟩ = some (.int .i64 x.2.2.1) := by simp [World.cell?, hX, cells4]
    have x3 : W.cell? ⟨Bx, 3, none⟩ = some (.bool x.2.2.2) := by simp [World.cell?, hX, cells4]
    gi_wp2_with (gi_at_builtin; refine wpListIn_append_own _ rfl _ _ 52 rfl w.heap.size 55 i0 _ 4 32 Tryd.underlying52 hi hz0 hz1 hz2 rfl (by decide) _ _ _ rfl (hrow.alloc _) ⟨W.heap.size, 0, none⟩ 1 1 (cells4 x) rfl rfl (new4 W x) (one4 x) ?q1 ?q2 ?q3 ?_; rotate_left 3; intro v' w1 hown' hgrow _; obtain ⟨g', cap', rfl⟩ := ownsRow_succ hown'; obtain ⟨hv1, hv2, hr2, hk2, hb2⟩ := hv.appended (by decide) hrow hB1.size hsz2 hown' hgrow; have hc1 := hv1.cell; have hf1 := hv1.frozen)
    · have keep : ∀ z u, Boxed W (B + 1) 9 u → Boxed (w1.setCell ⟨B, 0, none⟩ z) (B + 1) 9 u := fun z u hu => ((hu.alloc _).kept hgrow (hu.not_row (by decide) hrow)).other (by omega) z
      exact ⟨hk2.from _, kp_others hk2 (keep _), ⟨_, hv2, by rw [cellsL_snoc, List.length_append]; exact hr2, trivial⟩, keep _ _ hS, hB1.trans hb2⟩
    · unfold maxLen; omega
    · omega
    · have := hB1.size; simp; omega
  case done =>
    rintro D ys W hD rfl ⟨⟨v, hv, hrow, _⟩, hS, hB1⟩ hK
    have hc := hv.cell
    gi_wp2
    refine ⟨by simp, .inl ⟨_, _, rfl, run_takeDeferred hK, ?_⟩⟩
    exact ⟨_, results_tmp rfl _ _ _, v, rfl, ownsRow_putObj hrow _ hK rfl, hB1.trans (belowK_b (w := w) (Nat.le_refl _) W D _ _ (by omega) hK rfl rfl)⟩
  case stop =>
    rintro D c pre W _ _ h _
    exact h.elim
end Go.Proofs.YtckjededijgjgaaDoor.Pc
namespace Go.Proofs.YtckjededijgjgaaDoor.Pc
open Go.RowKit

theorem valid_yes (r : Int) (h : (0 ≤ r ∧ r < 55296) ∨ (57343 < r ∧ r ≤ 1114111)) : true = Utf8.valid r := by
  unfold Utf8.valid; symm; simp; omega
theorem valid_no (r : Int) (h : r < 0 ∨ (55296 ≤ r ∧ r ≤ 57343) ∨ 1114111 < r) : false = Utf8.valid r := by
  unfold Utf8.valid; symm; simp; omega

set_option maxHeartbeats 400000 in
theorem validRune_any (r : Int) (w : World) :
    Calls Tryd.prog 48 #[.int .i32 r] w fun e w' => e = .returned (.bool (Utf8.valid r)) ∧ w' = w := by
  go_enter Tryd.func48, Tryd.ntmps48
  go_wp2
  all_goals go_ret
  · exact ⟨ret_bool (valid_yes r (.inl ⟨‹_›, ‹_›⟩)), rfl⟩
  · exact ⟨ret_bool (valid_yes r (.inr ⟨‹_›, ‹_›⟩)), rfl⟩
  · exact ⟨ret_bool (valid_no r (.inr (.inr ‹_›))), rfl⟩
  · exact ⟨ret_bool (valid_no r (.inr (.inl ⟨‹_›, ‹_›⟩))), rfl⟩
  · exact ⟨ret_bool (valid_no r (.inl ‹_›)), rfl⟩
set_option maxHeartbeats 400000 in
theorem encode_yes (r : Int) (w : World) (h : Hid (Utf8.valid r = true)) :
    Calls Tryd.prog 19 #[.int .i32 r] w fun e w' => e = .returned (.tuple #[.string (Utf8.encode r), .int .i64 0]) ∧ w' = w := by
  go_enter Tryd.func19, Tryd.ntmps19
  go_wp2_with (go_at_call 48; refine (validRune_any r _).mono ?_; rw [h.out]; rintro e w' ⟨rfl, rfl⟩)
  go_ret2
  exact ⟨rfl, rfl⟩
set_option maxHeartbeats 400000 in
theorem encode_no (r : Int) (w : World) (h : Hid (Utf8.valid r = false)) :
    Calls Tryd.prog 19 #[.int .i32 r] w fun e w' => e = .returned (.tuple #[.string ⟨#[]⟩, .int .i64 19]) ∧ w' = w := by
  go_enter Tryd.func19, Tryd.ntmps19
  go_wp2_with (go_at_call 48; refine (validRune_any r _).mono ?_; rw [h.out]; rintro e w' ⟨rfl, rfl⟩)
  go_ret2
  exact ⟨rfl, rfl⟩

/-! the pieces of a string, one by one -/
theorem width_le (s : ByteArray) (pos : Nat) (h : pos < s.size) : 1 ≤ (Utf8.decode s pos).2 ∧ (Utf8.decode s pos).2 ≤ 4 ∧ pos + (Utf8.decode s pos).2 ≤ s.size := by
  rcases decode_cases s pos with ⟨hd, _, _⟩ | ⟨r, k, hd, he⟩
  · rw [hd]; simp; omega
  · rw [hd]; simp only
    rcases he with he | he | he | he <;> omega

/-- k pieces have come, the rest begins at pos -/
def At (s : ByteArray) (k pos : Nat) : Prop := ∃ f, (pieces s).drop k = piecesFrom s f pos ∧ s.size ≤ pos + f ∧ pos ≤ s.size ∧ k ≤ (pieces s).length

theorem At.start (s : ByteArray) : At s 0 0 := ⟨s.size, rfl, by omega, by omega, by omega⟩
theorem At.more {s : ByteArray} {k pos : Nat} (h : At s k pos) (hk : k < (pieces s).length) : pos < s.size ∧ (pieces s)[k]? = some (pcF s pos) ∧ At s (k + 1) (pos + (Utf8.decode s pos).2) := by
  obtain ⟨f, hd, hf, hp, _⟩ := h
  have hlt : pos < s.size := by
    by_cases e : pos < s.size
    · exact e
    · rw [piecesFrom_end s f pos e] at hd
      have := congrArg List.length hd
      simp at this; omega
  obtain ⟨f, rfl⟩ : ∃ f', f = f' + 1 := ⟨f - 1, by omega⟩
  have hw := width_le s pos hlt
  rw [piecesFrom, if_pos hlt, List.drop_eq_getElem_cons hk] at hd
  simp only [List.cons.injEq] at hd
  exact ⟨hlt, by rw [List.getElem?_eq_getElem hk, hd.1], f, hd.2, by omega, hw.2.2, hk⟩
theorem At.done {s : ByteArray} {k pos : Nat} (h : At s k pos) (hk : ¬ k < (pieces s).length) : pos = s.size := by
  obtain ⟨f, hd, hf, hp, _⟩ := h
  by_cases e : pos < s.size
  · obtain ⟨f, rfl⟩ : ∃ f', f = f' + 1 := ⟨f - 1, by omega⟩
    rw [piecesFrom, if_pos e, List.drop_of_length_le (by omega)] at hd
    cases hd
  · omega

theorem pieces_len (s : ByteArray) : (pieces s).length ≤ s.size := by
  have : ∀ f pos, (piecesFrom s f pos).length ≤ f := by
    intro f
    induction f with
    | zero => intro pos; simp [piecesFrom]
    | succ f ih => intro pos; rw [piecesFrom]; split
                   · have := ih (pos + (Utf8.decode s pos).2); simp; omega
                   · simp
  exact this _ _

/-- a piece's cells in the row -/
theorem cellsL_at : ∀ (l : List P4) (k j : Nat) (x : P4), l[k]? = some x → j < 4 → (cellsL l)[k * 4 + j]? = (cells4 x)[j]?
  | [], k, j, x, h, _ => by simp at h
  | a :: l, 0, j, x, h, hj => by
    simp at h; subst h
    simp only [cellsL, List.flatMap_cons, Nat.zero_mul, Nat.zero_add]
    rw [List.getElem?_append_left (by simp [cells4]; omega)]
  | a :: l, k + 1, j, x, h, hj => by
    have ih := cellsL_at l k j x (by simpa using h) hj
    simp only [cellsL, List.flatMap_cons]
    rw [List.getElem?_append_right (by simp [cells4]; omega)]
    have : (k + 1) * 4 + j - (cells4 a).length = k * 4 + j := by simp [cells4]; omega
    rw [this]; exact ih

/-- the row of pieces in memory: what the walk reads -/
theorem row_cells {W : World} {g : Nat} {cur : Array Value} {l : List P4} (hg : W.heap[g]? = some (.cells cur 55 (0, 0))) (ht : cur.toList.take (l.length * 4) = cellsL l) (k : Nat) (x : P4) (hx : l[k]? = some x) :
    W.cell? ⟨g, k * 4, none⟩ = some (.int .i32 x.1) ∧ W.cell? ⟨g, k * 4 + 1, none⟩ = some (.int .i64 x.2.1) ∧ W.cell? ⟨g, k * 4 + 2, none⟩ = some (.int .i64 x.2.2.1) ∧ W.cell? ⟨g, k * 4 + 3, none⟩ = some (.bool x.2.2.2) := by
  have hk : k < l.length := (List.getElem?_eq_some_iff.1 hx).1
  have cell : ∀ j, j < 4 → W.cell? ⟨g, k * 4 + j, none⟩ = (cells4 x)[j]? := by
    intro j hj
    rw [← cellsL_at l k j x hx hj, ← ht, List.getElem?_take_of_lt (by omega)]
    simp [World.cell?, hg]
  exact ⟨cell 0 (by omega), cell 1 (by omega), cell 2 (by omega), cell 3 (by omega)⟩

/-- the two kinds of pieces -/
theorem pc_cases (s : ByteArray) (pos : Nat) (h : pos < s.size) :
    ((Utf8.decode s pos).2 = 1 ∧ pcF s pos = ((s[pos].toNat : Int), (pos : Int), 1, true) ∧ 128 ≤ s[pos].toNat) ∨
    (∃ r k : Nat, pcF s pos = ((r : Int), (pos : Int), (k : Int), false) ∧ (Utf8.decode s pos).2 = k ∧ encAt s pos r k) := by
  rcases decode_cases s pos with ⟨hd, h128, _⟩ | ⟨r, k, hd, he⟩
  · left
    refine ⟨by rw [hd], ?_, by rw [← get_at s pos h]; exact h128⟩
    unfold pcF; rw [if_pos hd, get_at s pos h]
  · right
    refine ⟨r, k, ?_, by rw [hd], he⟩
    unfold pcF
    rw [if_neg, hd]
    rw [hd]; intro e
    simp only [Prod.mk.injEq] at e
    obtain ⟨rfl, rfl⟩ := e
    rcases he with he | he | he | he <;> omega

theorem bytes_at (s : ByteArray) (pos k : Nat) (h : pos + k ≤ s.size) : (s.extract pos (pos + k)).data.toList = (List.range k).map fun j => s.get! (pos + j) := by
  rw [Lib.extract_data]
  apply List.ext_getElem?
  intro i
  by_cases hi : i < k
  · have e : pos + k - pos = k := by omega
    rw [e, List.getElem?_take_of_lt hi, List.getElem?_drop, List.getElem?_eq_getElem (by simp; omega)]
    simp [hi, get_at s (pos + i) (by omega)]
    rfl
  · rw [List.getElem?_eq_none (by simp; omega), List.getElem?_eq_none (by simp; omega)]

theorem u8_of (c : UInt8) (n : Nat) (h : c.toNat = n) : c = UInt8.ofNat n := by
  rw [← UInt8.toNat_inj]; subst h; simp

/-- a whole rune's bytes are its encoding -/
theorem enc_bytes {s : ByteArray} {pos r k : Nat} (hp : pos < s.size) (h : encAt s pos r k) : (s.extract pos (pos + k)).data.toList = (Utf8.encode (r : Int)).data.toList := by
  have hv : Utf8.valid (r : Int) = true := by
    have := (encAt_len h).2
    exact (valid_yes _ (by omega)).symm
  have hk : pos + k ≤ s.size := by rcases h with h | h | h | h <;> omega
  rw [bytes_at s pos k hk]
  unfold Utf8.encode
  simp only [hv, if_true, Int.toNat_natCast]
  rcases h with ⟨rfl, h1, h2⟩ | ⟨rfl, h1, h2, h3, h4, h5⟩ | ⟨rfl, h1, h2, h3, h4, h5, h6, h7⟩ | ⟨rfl, h1, h2, h3, h4, h5, h6, h7⟩
  · rw [if_pos h1]
    simp [List.range_succ, u8_of _ _ h2]
  · rw [if_neg (by omega), if_pos h2]
    simp [List.range_succ, u8_of _ _ h4, u8_of _ _ h5]
  · rw [if_neg (by omega), if_neg (by omega), if_pos h2]
    simp [List.range_succ, u8_of _ _ h5, u8_of _ _ h6, u8_of _ _ h7]
  · rw [if_neg (by omega), if_neg (by omega), if_neg (by omega)]
    simp [List.range_succ, u8_of _ _ h4, u8_of _ _ h5, u8_of _ _ h6, u8_of _ _ h7]
end Go.Proofs.YtckjededijgjgaaDoor.Pc
