import Derived.Test.YthajboipnjjgfaaReA
namespace Go.Proofs.Ythajboipnjjgfaa.Ly
open Go.RowKit Go.Maps
set_option linter.unusedVariables false

theorem refNew_bad (w : World) (n : Int) (h : n < 1 ∨ n > 4096) : Calls Try.prog 66 #[.int .i64 n] w fun e w' => ∃ p, e = .returned (.tuple #[.pointer (some ⟨p, 0, none⟩), .int .i64 2]) ∧ Rn w.heap.size w' p false 0 (fun _ => false) (.slice none 0 0) Ct0 [] ∧ Kp Nu w w' := by
  have HB : Hid (Rn w.heap.size (w.alloc (.cells Try.zeroCells117 117)) w.heap.size false 0 (fun _ => false) (.slice none 0 0) Ct0 []) := ⟨⟨_, heap_alloc_new w _, Rc.zero⟩, World.ownsRow_nil _ _ _ _, by simp, by simp⟩
  by_cases h1 : n < 1
  · go_enter Try.func66, Try.ntmps66
    go_wp2
    go_ret2
    exact ⟨_, rfl, HB.out, Kp.alloc _ _ _⟩
  · have h2 : n > 4096 := by omega
    go_enter Try.func66, Try.ntmps66
    go_wp2
    go_ret2
    exact ⟨_, rfl, HB.out, Kp.alloc _ _ _⟩

theorem refNew_ok (w : World) (n : Int) (h0 : 1 ≤ n) (h1 : n ≤ 4096) : Calls Try.prog 66 #[.int .i64 n] w fun e w' => ∃ p, e = .returned (.tuple #[.pointer (some ⟨p, 0, none⟩), .int .i64 0]) ∧ Rn w.heap.size w' p true n (fun _ => false) (.slice none 0 0) Ct0 [] ∧ Kp Nu w w' := by
  have HB : Hid (Rn w.heap.size (w.alloc (.cells ((Try.zeroCells117.setIfInBounds 0 (.bool true)).setIfInBounds 1 (.int .i64 n)) 117)) w.heap.size true n (fun _ => false) (.slice none 0 0) Ct0 []) := ⟨⟨_, heap_alloc_new w _, (Rc.zero.set0 true).set1 n⟩, World.ownsRow_nil _ _ _ _, by simp, by simp⟩
  have h2 : ¬ n > 4096 := by omega
  have h3 : ¬ n < 1 := by omega
  go_enter Try.func66, Try.ntmps66
  go_wp2
  go_ret2
  exact ⟨_, rfl, HB.out, Kp.alloc _ _ _⟩

theorem meets_any (n a : Int) (w : World) : Calls Try.prog 86 #[.int .i64 n, .int .i64 a] w fun e w' => e = .returned (.bool (stF n a)) ∧ w' = w := by
  unfold stF
  by_cases h1 : n = -1
  · subst h1
    go_enter Try.func86, Try.ntmps86
    go_wp2
    go_ret
    exact ⟨rfl, rfl⟩
  · have h2 : (n == -1) = false := by simpa using h1
    rw [h2, Bool.false_or]
    go_enter Try.func86, Try.ntmps86
    go_wp2
    go_ret
    exact ⟨rfl, rfl⟩

def ics (xs : List Nat) : List Value := xs.map fun (x : Nat) => Value.int .i64 (x : Int)
theorem ics_length (xs : List Nat) : (ics xs).length = xs.length := by simp [ics]
theorem info3 : (Try.prog.info? 3).map (fun i => (i.zero, i.size, i.bytes)) = some (some (.int .i64 0), 1, 8) := by kernel_rfl
theorem cell_one_new (w : World) (x : Value) (t : TypeId) : ∀ j u, [x][j]? = some u → (w.alloc (.cells #[x] t)).cell? ((⟨w.heap.size, 0, none⟩ : Addr).add j) = some u := by
  intro j u hj
  have h := cell1 (heap_alloc_new w (.cells #[x] t))
  match j, hj with
  | 0, hj => simp at hj; subst hj; exact h

section
variable {B p : Nat} {w w' : World} {there : Bool} {room : Int} {bs : Nat → Bool} {v : Value} {c : Ct} {H : List Hg}

theorem pls_le (H : List Hg) (k : Nat) : (pls 0 (H.take k)).length ≤ k := by
  rw [pls_length]
  have h1 : (liv (H.take k)).length ≤ (H.take k).length := List.length_filter_le _ _
  have h2 : (H.take k).length ≤ k := by simp; omega
  omega

set_option maxRecDepth 100000 in
set_option maxHeartbeats 1000000 in
theorem places_any (h : Rn B w p there room bs v c H) (hH : (H.length : Int) ≤ 1599289640400) :
    Calls Try.prog 84 #[.pointer (some ⟨p, 0, none⟩)] w fun e w' => ∃ u, e = .returned u ∧ w'.ownsRow w.heap.size 3 1 u (pls 0 H).length (ics (pls 0 H)) ∧ Kp Nu w w' := by
  obtain ⟨i0, hi, hz0, hz1, hz2⟩ := info_parts info3
  obtain ⟨ad, cap, hvl⟩ := own_slice h.own
  obtain ⟨N, hN⟩ : ∃ N, H.length = N := ⟨_, rfl⟩
  have HH := hide h
  have HN := hide hN
  rw [hN] at hvl hH
  have HV := hide hvl
  have HM := hide hH
  clear h hN hvl hH
  go_enter Try.func84, Try.ntmps84
  go_wp2_with fail
  go_loopw [3, 4] (fun l i wr => ∃ (k n : Nat) (adl : Option Addr) (cpl : Nat), k ≤ N ∧ n ≤ k ∧ i = .int .i64 (k : Int) ∧ l = .slice adl n cpl ∧ Hid (wr.ownsRow w.heap.size 3 1 (.slice adl n cpl) n (ics (pls 0 (H.take k))) ∧ Kp Nu w wr)) (fun _ i _ => N - (intOf i).toNat)
  case atStart => exact ⟨0, 0, none, 0, by omega, by omega, rfl, rfl, ⟨⟨by simp [pls, ics], .inl ⟨rfl, rfl⟩⟩, Kp.refl _ _⟩⟩
  case round =>
    obtain ⟨k, n, adl, cpl, hk, hnk, rfl, rfl, hI⟩ := hrel
    have hR := HH.out.nu hI.out.2
    have c2 := hR.c2
    rw [HV.out] at c2
    have hkN : (k : Int) ≤ 1599289640400 := by have := HM.out; omega
    by_cases hlt : k < N
    · have hkM : k < H.length := by rw [HN.out]; exact hlt
      obtain ⟨g, hg⟩ : ∃ g, H[k]? = some g := ⟨_, List.getElem?_eq_getElem hkM⟩
      have hltI : (k : Int) < (N : Int) := by omega
      have hk0 : (0 : Int) ≤ (k : Int) := by omega
      have hst := pls_step hg
      obtain ⟨r, cap', hv, x0, x1, x2, x3⟩ := hrow_at hR.own hg
      rw [HV.out] at hv
      simp only [Value.slice.injEq] at hv
      obtain ⟨hv1, hv2, hv3⟩ := hv
      clear hv2 hv3
      subst hv1
      cases hgo : g.gone
      · rw [hgo] at x3 hst
        have HST := hide hst
        have hrow := hI.out.1
        have HK := hide hI.out.2
        have HNK : Hid (n + 1 ≤ 1599289640401) := by show _ ≤ _; omega
        clear hR hst hg hI hgo x0 x1 x2
        have hsz := HK.out.size
        go_wp2_with (first
          | (at_builtin; refine wpList_append_own _ rfl _ _ 22 rfl w.heap.size 3 i0 (.int .i64 0) 1 8 Try.underlying22 hi hz0 hz1 hz2 rfl (by decide) _ _ _ rfl (hrow.alloc _) ⟨wr.heap.size, 0, none⟩ 1 1 [.int .i64 (k : Int)] rfl rfl (cell_one_new _ _ _) (by simp [Value.oneCell']) (by have := HNK.out; unfold maxLen; omega) (by have := HNK.out; omega) (by simp; omega) ?_; intro v' w3 hown' hg3 hnil3; obtain ⟨ad3, cp3, ev3⟩ := own_slice hown'; have HO := hide hown'; have HG3 := hide hg3; subst ev3; clear hown' hg3 hnil3)
          | go_in)
        have HF : Hid (w3.ownsRow w.heap.size 3 1 (.slice ad3 (n + 1) cp3) (n + 1) (ics (pls 0 (H.take (k + 1)))) ∧ Kp Nu w w3) := by
          refine ⟨?_, ?_⟩
          · have e := HST.out
            have h1 := HO.out
            rw [e]
            simpa [ics] using h1
          · exact (HK.out.andAlloc _).trans (Kp.of_grown HG3.out) (fun i hi e => by
              have := (hrow.lt i e.symm).1
              omega)
        go_wp2
        exact ⟨⟨k + 1, n + 1, ad3, cp3, by omega, by omega, by go_num, rfl, HF⟩, by simp [intOf]; omega⟩
      · rw [hgo] at x3 hst
        have HF : Hid (wr.ownsRow w.heap.size 3 1 (.slice adl n cpl) n (ics (pls 0 (H.take (k + 1)))) ∧ Kp Nu w wr) := by
          refine ⟨?_, hI.out.2⟩
          rw [hst]
          simpa using hI.out.1
        clear hR hst hg hI hgo x0 x1 x2
        go_wp2
        exact ⟨⟨k + 1, n, adl, cpl, by omega, by omega, by go_num, rfl, HF⟩, by simp [intOf]; omega⟩
    · have hge : ¬ (k : Int) < (N : Int) := by omega
      obtain rfl : k = N := by omega
      have HF : Hid (wr.ownsRow w.heap.size 3 1 (.slice adl n cpl) (pls 0 H).length (ics (pls 0 H)) ∧ Kp Nu w wr) := by
        have h1 := hI.out.1
        have e : H.take k = H := by rw [← HN.out]; simp
        rw [e] at h1
        have e2 : (pls 0 H).length = n := by have := h1.1; rw [ics_length] at this; omega
        refine ⟨by rw [e2]; exact h1, hI.out.2⟩
      clear hI hR hkN
      go_wp2
      go_ret
      exact ⟨_, rfl, HF.out⟩

set_option maxHeartbeats 400000 in
theorem refBlock_no (h : Rn B w p false room bs v c H) (f t : Int) : Calls Try.prog 76 #[.pointer (some ⟨p, 0, none⟩), .int .i64 f, .int .i64 t] w fun e w' => e = .returned (.int .i64 1) ∧ w' = w := by
  have c0 := h.c0
  go_enter Try.func76, Try.ntmps76
  go_wp2
  go_ret
  exact ⟨rfl, rfl⟩
theorem bidx {f t : Int} (f0 : 0 ≤ f) (f1 : f < 256) (t0 : 0 ≤ t) (t1 : t < 256) : f.toNat * 256 + t.toNat < 65536 := by omega
set_option maxHeartbeats 400000 in
theorem refBlock_ok (h : Rn B w p true room bs v c H) (f t : Int) (f0 : 0 ≤ f) (f1 : f < 256) (t0 : 0 ≤ t) (t1 : t < 256) : Calls Try.prog 76 #[.pointer (some ⟨p, 0, none⟩), .int .i64 f, .int .i64 t] w fun e w' => e = .returned (.int .i64 0) ∧ Rn B w' p true room (upd bs (f.toNat * 256 + t.toNat) true) v c H ∧ Fq p v w w' v := by
  have c0 := h.c0
  have hb := bidx f0 f1 t0 t1
  have cb := h.cb hb
  have fb := h.free (3 + (f.toNat * 256 + t.toNat))
  rw [← Nat.add_assoc] at cb fb
  have HX : Hid (Rn B (w.setCell ⟨p, 3 + f.toNat * 256 + t.toNat, none⟩ (.bool true)) p true room (upd bs (f.toNat * 256 + t.toNat) true) v c H) := by
    have := h.set (3 + (f.toNat * 256 + t.toNat)) (.bool true) (fun cur hc => hc.setB hb true)
    rw [← Nat.add_assoc] at this
    exact this
  clear hb h
  go_enter Try.func76, Try.ntmps76
  go_wp2
  go_ret
  exact ⟨rfl, HX.out, (Fq.refl p v w).set _ _⟩
end
end Go.Proofs.Ythajboipnjjgfaa.Ly
