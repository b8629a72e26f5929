import Derived.Test.YtchealdgncgjoaaDgA
namespace Go.Proofs.Ytchealdgncgjoaa.Cd
open Go.RowKit
set_option linter.unusedVariables false
/-- one step of the hash -/
def fs (h c : Int) : Int := bits .xor .u64 h (IntKind.u64.wrap c) * 1099511628211 % 18446744073709551616
def fv (h : Int) (xs : List Int) : Int := xs.foldl fs h
theorem take_more {α : Type} {l : List α} {i : Nat} {x : α} (h : l[i]? = some x) : l.take (i + 1) = l.take i ++ [x] := by rw [List.take_add_one, h]; rfl
theorem fv_snoc (h : Int) (xs : List Int) (x : Int) : fv h (xs ++ [x]) = fs (fv h xs) x := by simp [fv]
theorem fv_append (h : Int) (a b : List Int) : fv h (a ++ b) = fv (fv h a) b := by simp [fv]
theorem Rd.at_ {w : World} {ad : Option Addr} {N cap : Nat} {xs : List Int} (h : Rd w (.slice ad N cap) xs) {j : Nat} {x : Int} (hx : xs[j]? = some x) : ∃ b : Addr, ad = some b ∧ w.cell? (b.add j) = some (.int .u8 x) := by
  rcases h with ⟨_, rfl⟩ | ⟨a, cap', e, hc⟩
  · simp at hx
  · cases e
    exact ⟨a, rfl, hc j _ (by simp [cs, hx])⟩
theorem Kp.andNu {S : Nat → Prop} {a b c : World} (h : Kp S a b) (k : Kp Nu b c) : Kp S a c := h.trans k (fun _ _ e => e.elim)
theorem Rd.nu {w w' : World} {v : Value} {xs : List Int} (h : Rd w v xs) (k : Kp Nu w w') : Rd w' v xs := h.keeps k (fun _ _ h => h)
set_option maxRecDepth 100000 in
theorem fnvMore122 (w : World) (h : Int) (v : Value) (xs : List Int) (hr : Rd w v xs) (hl : xs.length ≤ 281474976710656) :
    Calls Try.prog 122 #[.int .u64 h, v] w fun e w' => e = .returned (.int .u64 (fv h xs)) ∧ w' = w := by
  obtain ⟨ad, cap, hv⟩ := hr.slice
  obtain ⟨N, eN⟩ : ∃ N, xs.length = N := ⟨_, rfl⟩
  rw [eN] at hv hl
  subst hv
  have HU := hide (And.intro hr eN)
  clear hr eN
  have hNI : (N : Int) ≤ 281474976710656 := by omega
  go_enter Try.func122, Try.ntmps122
  go_wp2
  go_loopw [0, 9] (fun hv iv wr => ∃ (i : Nat) (s : Int), iv = .int .i64 (i : Int) ∧ hv = .int .u64 s ∧ i ≤ N ∧ wr = w ∧ Hid (s = fv h (xs.take i))) (fun _ iv _ => N - (intOf iv).toNat)
  case atStart => exact ⟨0, _, rfl, rfl, Nat.zero_le _, rfl, rfl⟩
  case round =>
    obtain ⟨i, s, rfl, rfl, hi, hw, hI⟩ := hrel
    obtain rfl := hw
    have hi0 : (0 : Int) ≤ (i : Int) := by omega
    by_cases hlt : i < N
    · have hltI : (i : Int) < (N : Int) := by omega
      obtain ⟨x, hx⟩ : ∃ x, xs[i]? = some x := ⟨_, List.getElem?_eq_getElem (by rw [HU.out.2]; exact hlt)⟩
      obtain ⟨b', rfl, hc⟩ := HU.out.1.at_ hx
      have eti : (i : Int).toNat = i := by omega
      have HX := hide (take_more hx)
      clear hx
      go_wp2
      refine ⟨⟨i + 1, _, by go_num, rfl, by omega, trivial, ?_⟩, by simp [intOf]; omega⟩
      show _ = _
      rw [HX.out, fv_snoc, ← hI.out]
      exact IntKind.wrap_u64 _
    · have hge : ¬ (i : Int) < (N : Int) := by omega
      have e := hI.out
      rw [List.take_of_length_le (by have := HU.out.2; omega)] at e
      have HE := hide e
      clear e hI
      go_wp2
      go_ret
      refine ⟨?_, rfl⟩
      rw [← HE.out]
      rfl
theorem fnv50 (w : World) (v : Value) (xs : List Int) (hr : Rd w v xs) (hl : xs.length ≤ 281474976710656) :
    Calls Try.prog 50 #[v] w fun e w' => e = .returned (.int .u64 (fv 14695981039346656037 xs)) ∧ w' = w := by
  obtain ⟨ad, cap, rfl⟩ := hr.slice
  have F := fnvMore122 w 14695981039346656037 _ xs hr hl
  clear hr hl
  go_enter Try.func50, Try.ntmps50
  go_wp2_with (go_at_call 122; refine F.mono ?_; rintro e w' ⟨rfl, rfl⟩)
  go_ret
  exact ⟨rfl, rfl⟩
/-- what stands ahead of a value -/
def hd (k : Int) (n : Nat) : List Int := be 8 k.toNat ++ be 2 (n % 65536)
theorem put_in (lim : Int) (xs ys : List Int) (h : (ys.length : Int) ≤ lim - (xs.length : Int)) : put lim 0 xs ys = (0, xs ++ ys) := by simp only [put, if_pos h, if_true]
theorem cell_nuB {w w' : World} {b : Nat} {c : Array Value} {t : TypeId} {S : Nat → Prop} (h : w.heap[b]? = some (.cells c t (0, 0))) (k : Kp S w w') (hn : ¬ S b) : w'.heap[b]? = some (.cells c t (0, 0)) := by
  have hlt : b < w.heap.size := by
    rcases Nat.lt_or_ge b w.heap.size with hlt | hge
    · exact hlt
    · rw [Array.getElem?_eq_none hge] at h; cases h
  exact (k.block b hlt hn).trans h
theorem cell2 {w : World} {b : Nat} {x y : Value} {t : TypeId} (h : w.heap[b]? = some (.cells #[x, y] t (0, 0))) : w.cell? ⟨b, 0, none⟩ = some x ∧ w.cell? ⟨b, 1, none⟩ = some y := by
  refine ⟨?_, ?_⟩ <;> simp [World.cell?, h]
/-- from what a writing call leaves: nothing below has turned -/
theorem Fr.nu {a w w' : World} {b : Nat} {v v' : Value} (h : Fr b v w w' v') (k : Kp Nu a w) (hb : a.heap.size ≤ b) (hv : ∀ g, v.ownBlock = some g → a.heap.size ≤ g) : Kp Nu a w' ∧ ∀ g, v'.ownBlock = some g → a.heap.size ≤ g := by
  refine ⟨k.trans h.kp ?_, fun g hg => ?_⟩
  · rintro i hi (rfl | e)
    · omega
    · have := hv i e.symm; omega
  · rcases h.lie with hl | ⟨g', hg', hl⟩
    · exact hv g (hl ▸ hg)
    · rw [hl] at hg; cases hg
      have := k.size
      omega
/-- a pair's bytes -/
def pb (k : Int) (ys : List Int) : List Int := hd k ys.length ++ ys
theorem hd_length (k : Int) (n : Nat) : (hd k n).length = 10 := by unfold hd; rw [List.length_append, be_length, be_length]
set_option maxHeartbeats 2000000 in
theorem bytesOf124 (w : World) (k : Int) (u : Value) (ys : List Int) (hu : Rd w u ys) (hy : ys.length ≤ 64) (h0 : 0 ≤ k) (h1 : k < 18446744073709551616) :
    Calls Try.prog 124 #[.int .u64 k, u] w fun e w' => ∃ v, e = .returned v ∧ Rd w' v (pb k ys) ∧ Kp Nu w w' := by
  obtain ⟨ad, cap, rfl⟩ := hu.slice
  have NW := newWriter_ok w 74 (by omega) (by omega)
  obtain ⟨n, en⟩ : ∃ n, ys.length = n := ⟨_, rfl⟩
  have HU := hide (And.intro hu (And.intro hy en))
  have hnI : (n : Int) ≤ 64 := by omega
  have hn0 : (0 : Int) ≤ (n : Int) := by omega
  rw [en] at ⊢
  clear hu hy en
  go_enter Try.func124, Try.ntmps124
  go_wp2_with fail
  refine NW.mono ?_; rintro e w1 ⟨rfl, hWr, hk1⟩
  have U := u64_any hWr ⟨by omega, by omega, by simp⟩ k h0 h1
  have HH := hide hk1
  clear NW hk1
  unfold Wrote at U
  go_wp2_with fail
  refine U.mono ?_; rintro e w2 ⟨rfl, v2, hW2, hF2⟩
  rw [put_in 74 [] _ (by rw [be_length]; simp)] at hW2
  simp only [List.nil_append] at hW2
  obtain ⟨K2, g2⟩ := hF2.nu HH.out (Nat.le_refl _) (fun g hg => by cases hg)
  have hmod : (IntKind.u16.wrap (n : Int)) = ((n % 65536 : Nat) : Int) := by rw [IntKind.wrap_u16]; omega
  have U := u16_any hW2 ⟨by omega, by omega, by rw [be_length]; omega⟩ ((n % 65536 : Nat) : Int) (by omega) (by omega)
  unfold Wrote at U
  have HH2 := hide (And.intro K2 g2)
  clear HH hF2 K2 g2
  go_wp2_with fail
  refine U.mono ?_; rintro e w3 ⟨rfl, v3, hW3, hF3⟩
  rw [put_in 74 _ _ (by rw [be_length, be_length]; omega)] at hW3
  simp only [Int.toNat_natCast] at hW3
  obtain ⟨K2, g2⟩ := HH2.out
  obtain ⟨K3, g3⟩ := hF3.nu K2 (Nat.le_refl _) g2
  have U := raw_any hW3 ⟨by omega, by omega, by rw [List.length_append, be_length, be_length]; omega⟩ (HU.out.1.nu K3)
  rw [HU.out.2.2] at U
  unfold Wrote at U
  have HH3 := hide (And.intro K3 g3)
  clear HH2 K2 g2 hF3 K3 g3 hW2 hWr hmod
  go_wp2_with fail
  refine U.mono ?_; rintro e w4 ⟨rfl, v4, hW4, hF4⟩
  rw [put_in 74 _ _ (by rw [List.length_append, be_length, be_length]; have := HU.out; omega)] at hW4
  obtain ⟨K3, g3⟩ := HH3.out
  obtain ⟨K4, g4⟩ := hF4.nu K3 (Nat.le_refl _) g3
  have hln : (be 8 k.toNat ++ be 2 (n % 65536) ++ ys).length = 10 + n := by rw [List.length_append, List.length_append, be_length, be_length]; have := HU.out.2.2; omega
  have O := out_ok hW4 ⟨by omega, by omega, by rw [hln]; omega⟩
  rw [hln] at O
  have HH4 := hide K4
  clear HH3 K3 g3 hF4 K4 g4 U hW3 hW4 hln
  go_wp2_with fail
  refine O.mono ?_; rintro e w5 ⟨rfl, ho, hk5⟩
  have HH5 := hide (And.intro ho hk5)
  clear O ho hk5
  go_wp2
  go_ret
  refine ⟨.slice (some ⟨w4.heap.size, 0, none⟩) (10 + n) (10 + n), rfl, ?_, HH4.out.andNu HH5.out.2⟩
  have hpb : pb k ys = be 8 k.toNat ++ be 2 (n % 65536) ++ ys := by unfold pb hd; rw [HU.out.2.2]
  have hl : (pb k ys).length = 10 + n := by unfold pb; rw [List.length_append, hd_length, HU.out.2.2]
  refine .inr ⟨⟨w4.heap.size, 0, none⟩, 10 + n, by rw [hl], fun j x hj => ?_⟩
  rw [hpb] at hj
  rw [Addr.add_lit]
  simpa [World.cell?, HH5.out.1] using hj
end Go.Proofs.Ytchealdgncgjoaa.Cd
