import Derived.Test.YtgaehpdlljlliaaCrB
import Derived.Lib.BufferMore
namespace Go.Proofs.Ytgaehpdlljlliaa.Cd
open Go.RowKit
set_option linter.unusedVariables false

theorem isNil (w : World) : (binOp .eql 30 (.slice none 0 0) (.slice none 0 0)).run Try.prog w = .ok (.bool true) w := by kernel_rfl
theorem notNil (a : Addr) (n c : Nat) (w : World) : (binOp .eql 30 (.slice (some a) n c) (.slice none 0 0)).run Try.prog w = .ok (.bool false) w := by kernel_rfl

def marks : List Int := List.replicate 8 173

/-- handed: nil, or a copy with eight marks behind it, in the block H -/
def Hd (w : World) (H : Nat) (u : Value) (v : Value) (xs : List Int) : Prop :=
  (u = .slice none 0 0 ∧ v = .slice none 0 0 ∧ xs = []) ∨
  (∃ a n cap, u = .slice (some a) n cap) ∧ v = .slice (some ⟨H, 0, none⟩) xs.length (xs.length + 8) ∧ w.heap[H]? = some (.cells (cs (xs ++ marks)).toArray 5 (0, 0))

theorem addr_of {w : World} {a : Addr} {xs : List Int} (hc : ∀ j u, (cs xs)[j]? = some u → w.cell? (a.add j) = some u) {j : Nat} (hj : j < xs.length) :
    ∃ ab ao, a = ⟨ab, ao, none⟩ ∧ ab < w.heap.size ∧ w.cell? ⟨ab, ao + j, none⟩ = some (.int .u8 xs[j]) := by
  have h0 := hc 0 (.int .u8 xs[0]) (by simp [cs])
  have hsp : a.spot = none := by
    have e : a.add 0 = a := by simp [Addr.add]
    rw [e] at h0
    unfold World.cell? at h0
    split at h0
    · split at h0
      · cases h0
      · rename_i h; simpa using h
    · cases h0
  obtain ⟨ab, ao, sp⟩ := a
  simp only at hsp
  subst hsp
  have h1 := hc j (.int .u8 xs[j]) (by simp [cs, hj])
  rw [addo] at h1
  exact ⟨ab, ao, rfl, World.block_lt_of_cell? w _ h1, h1⟩

theorem set_take {cur F : List Value} {k : Nat} {z : Value} (hk : k < cur.length) (hl : cur.length = F.length) (h : cur.take k = F.take k) (hz : F[k]? = some z) : (cur.set k z).take (k + 1) = F.take (k + 1) := by
  rw [List.take_add_one, List.take_add_one, List.take_set, h, hz]
  rw [List.getElem?_set_self hk]
  congr 1
  rw [List.set_eq_of_length_le]
  rw [List.length_take]
  omega

set_option maxRecDepth 100000 in
set_option maxHeartbeats 1000000 in
theorem handed_any {w : World} {u : Value} {xs : List Int} (h : Rd w u xs) (hb : xs.length ≤ 140737488355320) :
    Calls Try.prog 17 #[u] w fun e w' => ∃ v, e = .returned v ∧ Hd w' w.heap.size u v xs ∧ Kp Nu w w' := by
  obtain ⟨i0, hi, hz0, hz1, hz2⟩ := info_parts info5
  rcases h with ⟨rfl, rfl⟩ | ⟨a, cap, rfl, hc⟩
  · have hnil := isNil
    go_enter Try.func17, Try.ntmps17
    go_wp2
    go_ret
    exact ⟨_, rfl, .inl ⟨rfl, rfl, rfl⟩, Kp.refl _ _⟩
  · have hF : (cs (xs ++ marks)).length = xs.length + 8 := by simp [cs, marks]
    obtain ⟨F, hFd⟩ : ∃ F, cs (xs ++ marks) = F := ⟨_, rfl⟩
    have HFx : Hid (∀ k (hk : k < xs.length), F[k]? = some (.int .u8 xs[k])) := by
      intro k hk
      rw [← hFd]
      simp [cs, hk, List.getElem?_append_left]
    have HFm : Hid (∀ k, ¬ k < xs.length → k < xs.length + 8 → F[k]? = some (.int .u8 173)) := by
      intro k hk hk2
      rw [← hFd]
      simp only [cs, List.getElem?_map, marks]
      rw [List.getElem?_append_right (by omega), List.getElem?_replicate, if_pos (by omega)]
      rfl
    rw [hFd] at hF
    have HC : Hid (∀ j (hj : j < xs.length), ∃ ab ao, a = ⟨ab, ao, none⟩ ∧ ab < w.heap.size ∧ w.cell? ⟨ab, ao + j, none⟩ = some (.int .u8 xs[j])) := fun j hj => addr_of hc hj
    have HBB := hide hb
    have HF := hide hF
    have HFd := hide hFd
    clear hb hF hFd hc
    obtain ⟨n, hn⟩ : ∃ n, xs.length = n := ⟨_, rfl⟩
    have HN := hide hn
    have hnI : (n : Int) ≤ 140737488355320 := by have := HBB.out; omega
    rw [hn]
    have A1 : Hid (i0.bytes * (n + 8) ≤ 281474976710656) := by
      have := HBB.out
      show _ ≤ _
      rw [hz2]; omega
    have A2 : Hid (n + 8 ≤ maxLen) := by
      have := HBB.out
      show _ ≤ _
      unfold maxLen; omega
    clear hn
    have hnil := notNil a n cap
    go_enter Try.func17, Try.ntmps17
    go_wp2_with (at_make; refine wpList_make_full _ rfl _ _ 30 rfl w.heap.size 5 i0 _ 1 Try.underlying30 hi hz0 hz1 .i64 .i64 _ _ (n + 8) rfl rfl (by omega) (by omega) A1.out A2.out (Nat.le_refl _) ?_; intro w1 hown hgrow; obtain ⟨cur, HG, HCl⟩ := made_row hown; have HL := hide (Kp.of_grown hgrow); clear hown hgrow)
    go_loopw [4] (fun i wr => ∃ (k : Nat) (cu : List Value), k ≤ n + 8 ∧ i = .int .i64 k ∧ Hid (wr.heap[w.heap.size]? = some (.cells cu.toArray 5 (0, 0))) ∧ Hid (cu.length = n + 8 ∧ cu.take k = F.take k) ∧ Below w.heap.size w wr) (fun i _ => n + 8 - (intOf i).toNat)
    case atStart => exact ⟨0, cur, by omega, rfl, HG, ⟨HCl.out, by simp⟩, ⟨HL.out.os, HL.out.tape, HL.out.output, HL.out.size, fun k hk => HL.out.block k hk (by simp)⟩⟩
    case round =>
      clear HG HCl HL
      obtain ⟨k, cu, hk, rfl, HG, HT, hB⟩ := hrel
      by_cases hlt : k < n + 8
      · have hltI : (k : Int) < (n : Int) + 8 := by omega
        have hk0 : (0 : Int) ≤ (k : Int) := by omega
        have hkc : k < cu.length := by rw [HT.out.1]; exact hlt
        have hcell : wr.cell? ⟨w.heap.size, k, none⟩ = some cu[k] := by simp [World.cell?, HG.out, hkc]
        have hfree := free3 HG.out k
        by_cases hkn : k < n
        · obtain ⟨ab, ao, hae, hab, hxc⟩ := HC.out k (by rw [HN.out]; exact hkn)
          have hxr : wr.cell? ⟨ab, ao + k, none⟩ = some (.int .u8 (xs[k]'(by rw [HN.out]; exact hkn))) := (hB.cell hab).trans hxc
          have HFk := HFx.out k (by rw [HN.out]; exact hkn)
          have hne : ab ≠ w.heap.size := by omega
          have hknI : (k : Int) < (n : Int) := by omega
          subst hae
          have HFK := hide HFk
          clear HFk
          generalize (xs[k]'(by rw [HN.out]; exact hkn)) = z at *
          generalize cu[k] = cuk at *
          go_wp2
          refine ⟨⟨k + 1, cu.set k (.int .u8 z), by omega, by go_num, ?_, ⟨by simpa using HT.out.1, set_take hkc (by rw [HT.out.1, HF.out, HN.out]) HT.out.2 HFK.out⟩, (hB.setCell (p := ⟨w.heap.size, k, none⟩) (Nat.le_refl _) _).setCell (p := ⟨w.heap.size, k, none⟩) (Nat.le_refl _) _⟩, by simp [intOf]; omega⟩
          show _ = _
          rw [set3 (set3 HG.out k _) k _]
          simp
        · have hknI : ¬ (k : Int) < (n : Int) := by omega
          have HFK := hide (HFm.out k (by rw [HN.out]; exact hkn) (by rw [HN.out]; exact hlt))
          generalize cu[k] = cuk at *
          go_wp2
          refine ⟨⟨k + 1, cu.set k (.int .u8 173), by omega, by go_num, ?_, ⟨by simpa using HT.out.1, set_take hkc (by rw [HT.out.1, HF.out, HN.out]) HT.out.2 HFK.out⟩, hB.setCell (p := ⟨w.heap.size, k, none⟩) (Nat.le_refl _) _⟩, by simp [intOf]; omega⟩
          show _ = _
          rw [set3 HG.out k _]
          simp
      · have hke : k = n + 8 := by omega
        subst hke
        go_wp2
        go_ret
        have hn := HN.out
        have hcu : cu = F := by
          have := HT.out.2
          rwa [List.take_of_length_le (by rw [HT.out.1]; exact Nat.le_refl _), List.take_of_length_le (by rw [HF.out, hn]; exact Nat.le_refl _)] at this
        have hg := HG.out
        rw [hcu, ← HFd.out] at hg
        exact ⟨_, rfl, .inr ⟨⟨_, _, _, rfl⟩, by rw [hn]; rfl, hg⟩, ⟨hB.os, hB.tape, hB.output, hB.size, fun k hk _ => hB.block k hk⟩⟩
end Go.Proofs.Ytgaehpdlljlliaa.Cd
