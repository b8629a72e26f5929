import Derived.Test.YthajboipnjjgfaaReK
import Derived.Laws.AppendOwnNone
namespace Go.Proofs.Ythajboipnjjgfaa.Ly
open Go.RowKit Go.Maps
set_option linter.unusedVariables false
set_option linter.unusedSimpArgs false

/-- the bytes that are handed in, and eight marks behind them -/
def hndL (ys : List Int) : List Value := cs ys ++ List.replicate 8 (.int .u8 173)
theorem hndL_length (ys : List Int) : (hndL ys).length = ys.length + 8 := by simp [hndL, cs_length]
theorem hndL_lo {ys : List Int} {k : Nat} {y : Int} (h : ys[k]? = some y) : (hndL ys)[k]? = some (.int .u8 y) := by
  have hk : k < ys.length := (List.getElem?_eq_some_iff.1 h).1
  unfold hndL
  rw [List.getElem?_append_left (by rw [cs_length]; exact hk)]
  simp [cs, h]
theorem hndL_hi {ys : List Int} {k : Nat} (h : ys.length ≤ k) (h2 : k < ys.length + 8) : (hndL ys)[k]? = some (.int .u8 173) := by
  unfold hndL
  rw [List.getElem?_append_right (by rw [cs_length]; exact h), cs_length]
  rw [List.getElem?_replicate]
  simp
  omega
/-- what was handed in -/
def Hnd (w : World) (d : Value) (ys : List Int) (h : Value) : Prop :=
  (d = .slice none 0 0 ∧ ys = [] ∧ h = .slice none 0 0) ∨
  (∃ a cap g, d = .slice (some a) ys.length cap ∧ h = .slice (some ⟨g, 0, none⟩) ys.length (ys.length + 8) ∧ w.heap[g]? = some (.cells (hndL ys).toArray 5 (0, 0)))
theorem Hnd.keep {w w' : World} {d h : Value} {ys : List Int} (q : Hnd w d ys h) (hk : ∀ (k : Nat) (cur : Array Value), w.heap[k]? = some (.cells cur 5 (0, 0)) → w'.heap[k]? = w.heap[k]?) : Hnd w' d ys h := by
  rcases q with q | ⟨a, cap, g, h1, h2, h3⟩
  · exact .inl q
  · exact .inr ⟨a, cap, g, h1, h2, (hk g _ h3).trans h3⟩
theorem Hnd.rd {w : World} {d h : Value} {ys : List Int} (q : Hnd w d ys h) : Rd w h ys := by
  rcases q with ⟨_, rfl, rfl⟩ | ⟨a, cap, g, h1, rfl, h3⟩
  · exact .inl ⟨rfl, rfl⟩
  · refine .inr ⟨⟨g, 0, none⟩, _, rfl, fun j x hj => ?_⟩
    have hj2 : j < (cs ys).length := (List.getElem?_eq_some_iff.1 hj).1
    have : (hndL ys)[j]? = some x := by
      unfold hndL
      rw [List.getElem?_append_left hj2]
      exact hj
    rw [Addr.add_lit]
    simpa [World.cell?, h3] using this

set_option maxRecDepth 100000 in
set_option maxHeartbeats 1000000 in
theorem handed_any {w : World} {d : Value} {ys : List Int} (h : Rd w d ys) (hb : ys.length ≤ 140737488351232) :
    Calls Try.prog 67 #[d] w fun e w' => ∃ u, e = .returned u ∧ Hnd w' d ys u ∧ Kp Nu w w' := by
  have nn := notNil25
  have ni := isNil25
  rcases h with ⟨rfl, rfl⟩ | ⟨a, cap, rfl, hc⟩
  · go_enter Try.func67, Try.ntmps67
    go_wp2
    go_ret
    exact ⟨_, rfl, .inl ⟨rfl, rfl, rfl⟩, Kp.refl _ _⟩
  · obtain ⟨i0, hi, hz0, hz1, hz2⟩ := info_parts info5
    have HC := hide hc
    obtain ⟨n, hn⟩ : ∃ n, ys.length = n := ⟨_, rfl⟩
    have HN := hide hn
    rw [hn] at hb ⊢
    have hbI : (n : Int) ≤ 140737488351232 := by omega
    have A1 : Hid (i0.bytes * (n + 8) ≤ 281474976710656) := by show _ ≤ _; rw [hz2]; omega
    have A2 : Hid (n + 8 ≤ maxLen) := by show _ ≤ _; unfold maxLen; omega
    clear hc hn hb ni
    go_enter Try.func67, Try.ntmps67
    go_wp2_with (at_make; refine wpList_make_full _ rfl _ _ 25 rfl w.heap.size 5 i0 _ 1 Try.underlying25 hi hz0 hz1 .i64 .i64 _ _ (n + 8) rfl rfl (by omega) (by omega) A1.out A2.out (Nat.le_refl _) ?_; intro w1 hown hgrow; obtain ⟨cur, HG, HCl, _⟩ := made_row hown; have hk1 : Kp Nu w w1 := (Kp.of_grown hgrow).mono (fun _ _ e => by cases e); clear hown hgrow)
    have HK1 := hide hk1
    have HG0 := hide (And.intro HG HCl)
    clear hk1 HG HCl
    go_loopw [4] (fun i wr => ∃ (k : Nat) (cu : List Value), k ≤ n + 8 ∧ i = .int .i64 (k : Int) ∧ Hid (wr.heap[w.heap.size]? = some (.cells cu.toArray 5 (0, 0)) ∧ cu.length = n + 8 ∧ cu.take k = (hndL ys).take k ∧ Kp Nu w wr)) (fun i _ => n + 8 - (intOf i).toNat)
    case atStart => exact ⟨0, cur, by omega, rfl, ⟨HG0.out.1, by simpa using HG0.out.2, by simp, HK1.out⟩⟩
    case round =>
      obtain ⟨k, cu, hk, rfl, hI⟩ := hrel
      have hkb : (k : Int) ≤ 140737488351240 := by omega
      by_cases hlt : k < n + 8
      · have hltI : (k : Int) < ((n + 8 : Nat) : Int) := by omega
        have hk0 : (0 : Int) ≤ (k : Int) := by omega
        obtain ⟨u0, t0⟩ := cell_list hI.out.1 (o := k) (by have := hI.out.2.1; omega)
        have f0 := free3 hI.out.1 k
        by_cases hl2 : k < n
        · have hl2I : (k : Int) < (n : Int) := by omega
          have hky : k < ys.length := by rw [HN.out]; exact hl2
          obtain ⟨y, hy⟩ : ∃ y, ys[k]? = some y := ⟨_, List.getElem?_eq_getElem hky⟩
          have hcy : (wr.setCell ⟨w.heap.size, k, none⟩ (.int .u8 173)).cell? (a.add k) = some (.int .u8 y) := by
            have h1 := HC.out k (.int .u8 y) (by simp [cs, hy])
            have hl := World.block_lt_of_cell? w _ h1
            rw [World.cell?_of_block (Below.heap_setCell _ _ _ _ (by show _ ≠ w.heap.size; omega))]
            exact (World.cell?_of_block (hI.out.2.2.2.block _ hl (fun h => h))).trans h1
          have HF : Hid (((wr.setCell ⟨w.heap.size, k, none⟩ (.int .u8 173)).setCell ⟨w.heap.size, k, none⟩ (.int .u8 y)).heap[w.heap.size]? = some (.cells ((cu.set k (.int .u8 173)).set k (.int .u8 y)).toArray 5 (0, 0)) ∧ ((cu.set k (.int .u8 173)).set k (.int .u8 y)).length = n + 8 ∧ ((cu.set k (.int .u8 173)).set k (.int .u8 y)).take (k + 1) = (hndL ys).take (k + 1) ∧ Kp Nu w ((wr.setCell ⟨w.heap.size, k, none⟩ (.int .u8 173)).setCell ⟨w.heap.size, k, none⟩ (.int .u8 y))) := by
            refine ⟨set_list (set_list hI.out.1 k _) k _, by simpa using hI.out.2.1, ?_, (hI.out.2.2.2.andSet _ _ (.inl (Nat.le_refl _))).andSet _ _ (.inl (Nat.le_refl _))⟩
            have hl := hI.out.2.1
            rw [List.take_add_one, List.take_add_one, List.take_set_of_le (Nat.le_refl _), List.take_set_of_le (Nat.le_refl _), hI.out.2.2.1, hndL_lo hy, List.getElem?_set_self (by simp; omega)]
          clear hI hy hky
          go_wp2
          exact ⟨⟨k + 1, _, by omega, by go_num, HF⟩, by simp [intOf]; omega⟩
        · have hl2I : ¬ (k : Int) < (n : Int) := by omega
          have HF : Hid ((wr.setCell ⟨w.heap.size, k, none⟩ (.int .u8 173)).heap[w.heap.size]? = some (.cells (cu.set k (.int .u8 173)).toArray 5 (0, 0)) ∧ (cu.set k (.int .u8 173)).length = n + 8 ∧ (cu.set k (.int .u8 173)).take (k + 1) = (hndL ys).take (k + 1) ∧ Kp Nu w (wr.setCell ⟨w.heap.size, k, none⟩ (.int .u8 173))) := by
            refine ⟨set_list hI.out.1 k _, by simpa using hI.out.2.1, ?_, hI.out.2.2.2.andSet _ _ (.inl (Nat.le_refl _))⟩
            have hl := hI.out.2.1
            rw [List.take_add_one, List.take_add_one, List.take_set_of_le (Nat.le_refl _), hI.out.2.2.1, hndL_hi (by rw [HN.out]; omega) (by rw [HN.out]; omega), List.getElem?_set_self (by omega)]
          clear hI
          go_wp2
          exact ⟨⟨k + 1, _, by omega, by go_num, HF⟩, by simp [intOf]; omega⟩
      · have hge : ¬ (k : Int) < ((n + 8 : Nat) : Int) := by omega
        have HF : Hid (Hnd wr (.slice (some a) n cap) ys (.slice (some ⟨w.heap.size, 0, none⟩) n (n + 8)) ∧ Kp Nu w wr) := by
          refine ⟨.inr ⟨a, cap, w.heap.size, by rw [HN.out], by rw [HN.out], ?_⟩, hI.out.2.2.2⟩
          have e : cu = hndL ys := by
            have h1 := hI.out.2.2.1
            rw [List.take_of_length_le (by have := hI.out.2.1; omega), List.take_of_length_le (by rw [hndL_length, HN.out]; omega)] at h1
            exact h1
          rw [← e]
          exact hI.out.1
        have hn0 : (0 : Int) ≤ (n : Int) := by omega
        clear hI
        go_wp2
        go_ret
        exact ⟨_, rfl, HF.out.1, HF.out.2⟩
end Go.Proofs.Ythajboipnjjgfaa.Ly
