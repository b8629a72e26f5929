import Derived.Test.YthajboipnjjgfaaReI
namespace Go.Proofs.Ythajboipnjjgfaa.Ly
open Go.RowKit Go.Maps
set_option linter.unusedVariables false
set_option linter.unusedSimpArgs false

def top : Nat := 65536
def fitK (n m : Int) (k : Nat) : Bool := stF n ((k / 256 : Nat) : Int) && stF m ((k % 256 : Nat) : Int)
/-- the bits behind a Heal of the first P links -/
def hl (bs : Nat → Bool) (n m : Int) (P : Nat) : Nat → Bool := fun k => bs k && !(decide (k < P) && fitK n m k)
/-- how many of the first P links are opened -/
def cntH (bs : Nat → Bool) (n m : Int) (P : Nat) : Nat := ((List.range P).filter fun k => bs k && fitK n m k).length
/-- the first P links that are blocked -/
def tru (bs : Nat → Bool) (P : Nat) : List Nat := (List.range P).filter bs
def pcs (xs : List Nat) : List Value := xs.flatMap fun (k : Nat) => [.int .i64 ((k / 256 : Nat) : Int), .int .i64 ((k % 256 : Nat) : Int)]
theorem hl_zero (bs : Nat → Bool) (n m : Int) : hl bs n m 0 = bs := by funext k; simp [hl]
theorem hl_self (bs : Nat → Bool) (n m : Int) (P : Nat) : hl bs n m P P = bs P := by simp [hl]
theorem hl_skip {bs : Nat → Bool} {n m : Int} {P : Nat} (h : bs P = false ∨ fitK n m P = false) : hl bs n m (P + 1) = hl bs n m P := by
  funext k
  unfold hl
  by_cases e : k = P
  · subst e
    rcases h with h | h <;> simp [h]
  · have : decide (k < P + 1) = decide (k < P) := by simp; omega
    rw [this]
theorem hl_step {bs : Nat → Bool} {n m : Int} {P : Nat} (h : fitK n m P = true) : upd (hl bs n m P) P false = hl bs n m (P + 1) := by
  funext k
  unfold upd hl
  by_cases e : k = P
  · subst e
    simp [h]
  · have : decide (k < P + 1) = decide (k < P) := by simp; omega
    rw [if_neg e, this]
theorem cntH_skip {bs : Nat → Bool} {n m : Int} {P : Nat} (h : bs P = false ∨ fitK n m P = false) : cntH bs n m (P + 1) = cntH bs n m P := by
  unfold cntH
  rw [List.range_succ, List.filter_append]
  rcases h with h | h <;> simp [h]
theorem cntH_step {bs : Nat → Bool} {n m : Int} {P : Nat} (h0 : bs P = true) (h : fitK n m P = true) : cntH bs n m (P + 1) = cntH bs n m P + 1 := by
  unfold cntH
  rw [List.range_succ, List.filter_append]
  simp [h, h0]
theorem cntH_le (bs : Nat → Bool) (n m : Int) (P : Nat) : cntH bs n m P ≤ P := by
  have : cntH bs n m P ≤ (List.range P).length := List.length_filter_le _ _
  simpa using this
theorem tru_le (bs : Nat → Bool) (P : Nat) : (tru bs P).length ≤ P := by
  have : (tru bs P).length ≤ (List.range P).length := List.length_filter_le _ _
  simpa using this
theorem tru_skip {bs : Nat → Bool} {P : Nat} (h : bs P = false) : tru bs (P + 1) = tru bs P := by
  unfold tru
  rw [List.range_succ, List.filter_append]
  simp [h]
theorem tru_step {bs : Nat → Bool} {P : Nat} (h : bs P = true) : tru bs (P + 1) = tru bs P ++ [P] := by
  unfold tru
  rw [List.range_succ, List.filter_append]
  simp [h]
theorem pos_div {i j : Nat} (hj : j < 256) : (i * 256 + j) / 256 = i ∧ (i * 256 + j) % 256 = j := by omega
theorem fit_at {n m : Int} {i j : Nat} (hj : j < 256) : fitK n m (i * 256 + j) = (stF n (i : Int) && stF m (j : Int)) := by
  unfold fitK
  rw [(pos_div hj).1, (pos_div hj).2]
theorem pcs_length (xs : List Nat) : (pcs xs).length = xs.length * 2 := by
  induction xs with
  | nil => rfl
  | cons x r ih => simp only [pcs, List.flatMap_cons, List.length_append] at *; rw [ih]; simp; omega
theorem info139 : (Try.prog.info? 139).map (fun i => (i.zero, i.size, i.bytes)) = some (some (.agg #[.int .i64 0, .int .i64 0]), 2, 16) := by kernel_rfl

section
variable {B p : Nat} {w w' : World} {there : Bool} {room : Int} {bs : Nat → Bool} {v : Value} {c : Ct} {H : List Hg}

set_option maxRecDepth 100000 in
set_option maxHeartbeats 1000000 in
theorem refHeal_any (h : Rn B w p there room bs v c H) (n m : Int) :
    Calls Try.prog 77 #[.pointer (some ⟨p, 0, none⟩), .int .i64 n, .int .i64 m] w fun e w' => e = .returned (.int .i64 (cntH bs n m top : Int)) ∧ Rn B w' p there room (hl bs n m top) v c H ∧ Fq p v w w' v := by
  have ME := meets_any
  have HH := hide h
  clear h
  go_enter Try.func77, Try.ntmps77
  go_wp2_with fail
  go_loopw [7, 8, 9] (fun kc iv jv wr => ∃ (i q : Nat), i ≤ 256 ∧ iv = .int .i64 (i : Int) ∧ kc = .int .i64 (q : Int) ∧ Hid (q = cntH bs n m (i * 256) ∧ Rn B wr p there room (hl bs n m (i * 256)) v c H ∧ Fq p v w wr v)) (fun _ iv _ _ => 256 - (intOf iv).toNat)
  case atStart => exact ⟨0, 0, by omega, rfl, rfl, ⟨by simp [cntH], by rw [Nat.zero_mul, hl_zero]; exact HH.out, Fq.refl _ _ _⟩⟩
  case round =>
    obtain ⟨i, q, hi, rfl, rfl, hI⟩ := hrel
    by_cases hlt : i < 256
    · have hltI : (i : Int) < 256 := by omega
      have hi0 : (0 : Int) ≤ (i : Int) := by omega
      generalize wr = wl at *
      go_wp2_with fail
      go_loopw [7, 9] (fun kc jv wr => ∃ (j q : Nat), j ≤ 256 ∧ jv = .int .i64 (j : Int) ∧ kc = .int .i64 (q : Int) ∧ Hid (q = cntH bs n m (i * 256 + j) ∧ Rn B wr p there room (hl bs n m (i * 256 + j)) v c H ∧ Fq p v w wr v)) (fun _ jv _ => 256 - (intOf jv).toNat)
      case atStart => exact ⟨0, q, by omega, rfl, rfl, hI⟩
      case round =>
        clear hI
        obtain ⟨j, q, hj, rfl, rfl, hI⟩ := hrel
        by_cases hjl : j < 256
        · have hjI : (j : Int) < 256 := by omega
          have hj0 : (0 : Int) ≤ (j : Int) := by omega
          have hR := hI.out.2.1
          have hP : i * 256 + j < 65536 := by omega
          have cb := hR.cb hP
          rw [hl_self, ← Nat.add_assoc] at cb
          have fb := hR.free (3 + (i * 256 + j))
          rw [← Nat.add_assoc] at fb
          have hft := fit_at (n := n) (m := m) (i := i) hjl
          have hqb : (q : Int) ≤ 65536 := by have h1 := hI.out.1; have := cntH_le bs n m (i * 256 + j); omega
          have hq0 : (0 : Int) ≤ (q : Int) := by omega
          cases hb : bs (i * 256 + j)
          · rw [hb] at cb
            have HF : Hid (q = cntH bs n m (i * 256 + (j + 1)) ∧ Rn B wr p there room (hl bs n m (i * 256 + (j + 1))) v c H ∧ Fq p v w wr v) := by
              rw [← Nat.add_assoc, hl_skip (.inl hb), cntH_skip (.inl hb)]
              exact hI.out
            clear hI hR hP fb hft hb
            go_wp2
            exact ⟨⟨j + 1, q, by omega, by go_num, rfl, HF⟩, by simp [intOf]; omega⟩
          · rw [hb] at cb
            cases h1 : stF n (i : Int)
            · have hfk : fitK n m (i * 256 + j) = false := by rw [hft, h1]; rfl
              have HF : Hid (q = cntH bs n m (i * 256 + (j + 1)) ∧ Rn B wr p there room (hl bs n m (i * 256 + (j + 1))) v c H ∧ Fq p v w wr v) := by
                rw [← Nat.add_assoc, hl_skip (.inr hfk), cntH_skip (.inr hfk)]
                exact hI.out
              have M1 := ME n (i : Int) wr
              rw [h1] at M1
              clear hI hR hP fb hft hb hfk
              go_wp2_with fail
              refine M1.mono ?_; rintro e w2 ⟨rfl, hw2⟩
              obtain rfl := hw2.symm
              clear hw2 M1
              go_wp2
              exact ⟨⟨j + 1, q, by omega, by go_num, rfl, HF⟩, by simp [intOf]; omega⟩
            · cases h2 : stF m (j : Int)
              · have hfk : fitK n m (i * 256 + j) = false := by rw [hft, h1, h2]; rfl
                have HF : Hid (q = cntH bs n m (i * 256 + (j + 1)) ∧ Rn B wr p there room (hl bs n m (i * 256 + (j + 1))) v c H ∧ Fq p v w wr v) := by
                  rw [← Nat.add_assoc, hl_skip (.inr hfk), cntH_skip (.inr hfk)]
                  exact hI.out
                have M1 := ME n (i : Int) wr
                have M2 := ME m (j : Int) wr
                rw [h1] at M1
                rw [h2] at M2
                clear hI hR hP fb hft hb hfk
                go_wp2_with fail
                refine M1.mono ?_; rintro e w2 ⟨rfl, hw2⟩
                obtain rfl := hw2.symm
                clear hw2 M1
                go_wp2_with fail
                refine M2.mono ?_; rintro e w2 ⟨rfl, hw2⟩
                obtain rfl := hw2.symm
                clear hw2 M2
                go_wp2
                exact ⟨⟨j + 1, q, by omega, by go_num, rfl, HF⟩, by simp [intOf]; omega⟩
              · have hfk : fitK n m (i * 256 + j) = true := by rw [hft, h1, h2]; rfl
                have HF : Hid (q + 1 = cntH bs n m (i * 256 + (j + 1)) ∧ Rn B (wr.setCell ⟨p, 3 + i * 256 + j, none⟩ (.bool false)) p there room (hl bs n m (i * 256 + (j + 1))) v c H ∧ Fq p v w (wr.setCell ⟨p, 3 + i * 256 + j, none⟩ (.bool false)) v) := by
                  rw [← Nat.add_assoc (i * 256), cntH_step hb hfk, ← hl_step hfk]
                  refine ⟨by rw [hI.out.1], ?_, hI.out.2.2.set _ _⟩
                  have := hR.set (3 + (i * 256 + j)) (.bool false) (fun cur hc => hc.setB hP false)
                  rw [← Nat.add_assoc] at this
                  exact this
                have M1 := ME n (i : Int) wr
                have M2 := ME m (j : Int) wr
                rw [h1] at M1
                rw [h2] at M2
                clear hI hR hP hft hb hfk
                go_wp2_with fail
                refine M1.mono ?_; rintro e w2 ⟨rfl, hw2⟩
                obtain rfl := hw2.symm
                clear hw2 M1
                go_wp2_with fail
                refine M2.mono ?_; rintro e w2 ⟨rfl, hw2⟩
                obtain rfl := hw2.symm
                clear hw2 M2
                go_wp2
                exact ⟨⟨j + 1, q + 1, by omega, by go_num, by go_num, HF⟩, by simp [intOf]; omega⟩
        · have hge : ¬ (j : Int) < 256 := by omega
          have HF : Hid (q = cntH bs n m ((i + 1) * 256) ∧ Rn B wr p there room (hl bs n m ((i + 1) * 256)) v c H ∧ Fq p v w wr v) := by
            rw [show (i + 1) * 256 = i * 256 + j by omega]
            exact hI.out
          clear hI
          go_wp2
          exact ⟨⟨i + 1, q, by omega, by go_num, rfl, HF⟩, by simp [intOf]; omega⟩
    · have hge : ¬ (i : Int) < 256 := by omega
      have HF : Hid (q = cntH bs n m top ∧ Rn B wr p there room (hl bs n m top) v c H ∧ Fq p v w wr v) := by
        rw [show top = i * 256 by unfold top; omega]
        exact hI.out
      clear hI
      go_wp2
      go_ret
      exact ⟨by simp [HF.out.1], HF.out.2⟩

set_option maxRecDepth 100000 in
set_option maxHeartbeats 1000000 in
theorem refBlocked_any (h : Rn B w p there room bs v c H) :
    Calls Try.prog 88 #[.pointer (some ⟨p, 0, none⟩)] w fun e w' => ∃ u, e = .returned u ∧ w'.ownsRow w.heap.size 139 2 u (tru bs top).length (pcs (tru bs top)) ∧ Kp Nu w w' := by
  obtain ⟨i0, hi0, hz0, hz1, hz2⟩ := info_parts info139
  have HH := hide h
  clear h
  go_enter Try.func88, Try.ntmps88
  go_wp2_with fail
  go_loopw [3, 4, 5] (fun l iv jv wr => ∃ (i n : Nat) (ad : Option Addr) (cp : Nat), i ≤ 256 ∧ iv = .int .i64 (i : Int) ∧ l = .slice ad n cp ∧ Hid (wr.ownsRow w.heap.size 139 2 (.slice ad n cp) n (pcs (tru bs (i * 256))) ∧ Kp Nu w wr)) (fun _ iv _ _ => 256 - (intOf iv).toNat)
  case atStart => exact ⟨0, 0, none, 0, by omega, rfl, rfl, ⟨⟨by simp [tru, pcs], .inl ⟨rfl, rfl⟩⟩, Kp.refl _ _⟩⟩
  case round =>
    obtain ⟨i, n, ad, cp, hi, rfl, rfl, hI⟩ := hrel
    by_cases hlt : i < 256
    · have hltI : (i : Int) < 256 := by omega
      have hii : (0 : Int) ≤ (i : Int) := by omega
      generalize wr = wl at *
      go_wp2_with fail
      go_loopw [3, 5] (fun l jv wr => ∃ (j n : Nat) (ad : Option Addr) (cp : Nat), j ≤ 256 ∧ jv = .int .i64 (j : Int) ∧ l = .slice ad n cp ∧ Hid (wr.ownsRow w.heap.size 139 2 (.slice ad n cp) n (pcs (tru bs (i * 256 + j))) ∧ Kp Nu w wr)) (fun _ jv _ => 256 - (intOf jv).toNat)
      case atStart => exact ⟨0, n, ad, cp, by omega, rfl, rfl, hI⟩
      case round =>
        clear hI
        obtain ⟨j, n, ad, cp, hj, rfl, rfl, hI⟩ := hrel
        by_cases hjl : j < 256
        · have hjI : (j : Int) < 256 := by omega
          have hj0 : (0 : Int) ≤ (j : Int) := by omega
          have hR := HH.out.nu hI.out.2
          have hP : i * 256 + j < 65536 := by omega
          have cb := hR.cb hP
          rw [← Nat.add_assoc] at cb
          cases hb : bs (i * 256 + j)
          · rw [hb] at cb
            have HF : Hid (wr.ownsRow w.heap.size 139 2 (.slice ad n cp) n (pcs (tru bs (i * 256 + (j + 1)))) ∧ Kp Nu w wr) := by
              rw [← Nat.add_assoc, tru_skip hb]
              exact hI.out
            clear hI hR hP hb
            go_wp2
            exact ⟨⟨j + 1, n, ad, cp, by omega, by go_num, rfl, HF⟩, by simp [intOf]; omega⟩
          · rw [hb] at cb
            have hrow := hI.out.1
            have HK := hide hI.out.2
            have hsz := HK.out.size
            have hnb : n ≤ 65536 := by
              have h1 := hrow.1
              rw [pcs_length] at h1
              have h2 := tru_le bs (i * 256 + j)
              omega
            have HNB := hide hnb
            have HST := hide (tru_step hb)
            clear hI hR hP hb hnb
            go_wp2_with (first
              | (at_builtin; refine wpList_append_own _ rfl _ _ 137 rfl w.heap.size 139 i0 (.agg #[.int .i64 0, .int .i64 0]) 2 16 Try.underlying137 hi0 hz0 hz1 hz2 rfl (by decide) _ _ _ rfl (hrow.alloc _) ⟨wr.heap.size, 0, none⟩ 1 1 [.int .i64 (i : Int), .int .i64 (j : Int)] rfl rfl (cell_two_new _ _ _ _) (by simp [Value.oneCell']) (by have := HNB.out; unfold maxLen; omega) (by have := HNB.out; omega) (by simp; omega) ?_; intro v' w3 hown' hg3 hnil3; obtain ⟨ad3, cp3, ev3⟩ := own_slice hown'; have HO := hide hown'; have HG3 := hide hg3; subst ev3; clear hown' hg3 hnil3)
              | go_in)
            have HF : Hid (w3.ownsRow w.heap.size 139 2 (.slice ad3 (n + 1) cp3) (n + 1) (pcs (tru bs (i * 256 + (j + 1)))) ∧ Kp Nu w w3) := by
              refine ⟨?_, ?_⟩
              · have h1 := HO.out
                rw [← Nat.add_assoc, HST.out]
                have e : pcs (tru bs (i * 256 + j) ++ [i * 256 + j]) = pcs (tru bs (i * 256 + j)) ++ [.int .i64 (i : Int), .int .i64 (j : Int)] := by
                  simp only [pcs, List.flatMap_append, List.flatMap_cons, List.flatMap_nil, List.append_nil]
                  rw [(pos_div hjl).1, (pos_div hjl).2]
                rw [e]
                exact h1
              · exact (HK.out.andAlloc _).trans (Kp.of_grown HG3.out) (fun i hi e => by
                  have := (hrow.lt i e.symm).1
                  omega)
            go_wp2
            exact ⟨⟨j + 1, n + 1, ad3, cp3, by omega, by go_num, rfl, HF⟩, by simp [intOf]; omega⟩
        · have hge : ¬ (j : Int) < 256 := by omega
          have HF : Hid (wr.ownsRow w.heap.size 139 2 (.slice ad n cp) n (pcs (tru bs ((i + 1) * 256))) ∧ Kp Nu w wr) := by
            rw [show (i + 1) * 256 = i * 256 + j by omega]
            exact hI.out
          clear hI
          go_wp2
          exact ⟨⟨i + 1, n, ad, cp, by omega, by go_num, rfl, HF⟩, by simp [intOf]; omega⟩
    · have hge : ¬ (i : Int) < 256 := by omega
      have HF : Hid (wr.ownsRow w.heap.size 139 2 (.slice ad n cp) (tru bs top).length (pcs (tru bs top)) ∧ Kp Nu w wr) := by
        have e : top = i * 256 := by unfold top; omega
        have h1 := hI.out.1
        rw [← e] at h1
        have e2 : (tru bs top).length = n := by have := h1.1; rw [pcs_length] at this; omega
        rw [e2]
        exact ⟨h1, hI.out.2⟩
      clear hI
      go_wp2
      go_ret
      exact ⟨_, rfl, HF.out⟩
end
end Go.Proofs.Ythajboipnjjgfaa.Ly
