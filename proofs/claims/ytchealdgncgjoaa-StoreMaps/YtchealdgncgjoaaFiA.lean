import Derived.Test.YtchealdgncgjoaaRmH
namespace Go.Proofs.Ytchealdgncgjoaa.StI
open Go.RowKit Go.Proofs.Ytchealdgncgjoaa.St Go.Shelf
set_option linter.unusedVariables false
theorem cell_nuI {w w' : World} {a : Addr} {u : Value} (h : w.cell? a = some u) (k : Kp Nu w w') : w'.cell? a = some u := by
  have hl := World.block_lt_of_cell? w _ h
  have := k.block a.block hl (fun h => h)
  unfold World.cell? at h ⊢
  rw [this]; exact h
theorem kp_newI {w w' w'' : World} {mb : Nat} (hB : w.heap.size ≤ mb) (k : Kp Nu w w') (q : Kp (fun i => i = mb) w' w'') : Kp Nu w w'' :=
  k.trans q (fun i hi e => by have e : i = mb := e; omega)
/-- numbers in memory -/
def Wi (W : World) (v : Value) (S : List Int) : Prop := ∃ ad cap, v = .slice ad S.length cap ∧ ∀ i s, S[i]? = some s → ∃ b off, ad = some ⟨b, off, none⟩ ∧ W.cell? ⟨b, off + i, none⟩ = some (.int .i64 s)
/-- both maps, and what has been kept -/
def Both (w : World) (mb rb : Nat) (n : Nat) (wr : World) (t : T (Int × Int)) : Prop := Mp wr mb t ∧ (∃ vk vv, Rm w.heap.size wr rb 0 vk vv t.xs) ∧ t.sz ≤ n ∧ Kp Nu w wr
section
variable {w wl : World} {mb rb n : Nat} {t : T (Int × Int)}
theorem Both.put {w2 w3 : World} {vk vv : Value} {k v : Int} (h1 : w.heap.size ≤ mb) (h2 : w.heap.size ≤ rb) (hsz : t.sz ≤ n) (hk : Kp Nu w wl) (hm2 : Mp w2 mb (putT k v t)) (k2 : Kp (fun i => i = mb) wl w2) (r2 : Rm w.heap.size w2 rb 0 vk vv t.xs) (r3 : ∃ vk' vv', Rm w.heap.size w3 rb 0 vk' vv' (putT k v t).xs) (k3 : Kp (fun i => i = rb ∨ vv.ownBlock = some i) w2 w3) : Both w mb rb (n + 1) w3 (putT k v t) := by
  refine ⟨hm2.keepR r2 k3, r3, ?_, (hk.trans k2 (fun i hi e => by have e : i = mb := e; omega)).trans k3 (fun i hi e => ?_)⟩
  · rw [put_sz]; split <;> omega
  · rcases e with e | e
    · omega
    · have := own_low r2.ov e; omega
theorem Both.del {w2 w3 : World} {vk vv : Value} {k : Int} (h1 : w.heap.size ≤ mb) (h2 : w.heap.size ≤ rb) (hsz : t.sz ≤ n) (hk : Kp Nu w wl) (hm2 : Mp w2 mb (delT k t)) (k2 : Kp (fun i => i = mb) wl w2) (r2 : Rm w.heap.size w2 rb 0 vk vv t.xs) (r3 : ∃ vk' vv', Rm w.heap.size w3 rb 0 vk' vv' (delT k t).xs) (k3 : Kp (fun i => i = rb ∨ vv.ownBlock = some i) w2 w3) : Both w mb rb n w3 (delT k t) := by
  refine ⟨hm2.keepR r2 k3, r3, ?_, (hk.trans k2 (fun i hi e => by have e : i = mb := e; omega)).trans k3 (fun i hi e => ?_)⟩
  · rw [del_sz]; split <;> omega
  · rcases e with e | e
    · omega
    · have := own_low r2.ov e; omega
end
set_option maxRecDepth 100000 in
set_option maxHeartbeats 4000000 in
theorem filled_any (w : World) (v0 v1 : Value) (S O : List Int) (hS : Wi w v0 S) (hO : Wi w v1 O) (hl0 : S.length ≤ 17592186043904) (hl1 : O.length ≤ 17592186043904) :
    Calls Try.prog 35 #[v0, v1] w fun e w' => ∃ (mb rb : Nat) (t : T (Int × Int)), e = .returned (.tuple #[.pointer (some ⟨mb, 0, none⟩), .pointer (some ⟨rb, 0, none⟩)]) ∧ w.heap.size ≤ mb ∧ w.heap.size ≤ rb ∧ Both w mb rb S.length w' t := by
  obtain ⟨ad0, cap0, rfl, hw0⟩ := hS
  obtain ⟨ad1, cap1, rfl, hw1⟩ := hO
  have HW0 : Hid (∀ W, Kp Nu w W → ∀ i s, S[i]? = some s → ∃ b off, ad0 = some ⟨b, off, none⟩ ∧ W.cell? ⟨b, off + i, none⟩ = some (.int .i64 s)) := fun W k i s h => by
    obtain ⟨b, off, e, hc⟩ := hw0 i s h
    exact ⟨b, off, e, cell_nuI hc k⟩
  have HW1 : Hid (∀ W, Kp Nu w W → ∀ i s, O[i]? = some s → ∃ b off, ad1 = some ⟨b, off, none⟩ ∧ W.cell? ⟨b, off + i, none⟩ = some (.int .i64 s)) := fun W k i s h => by
    obtain ⟨b, off, e, hc⟩ := hw1 i s h
    exact ⟨b, off, e, cell_nuI hc k⟩
  obtain ⟨N, hN⟩ : ∃ N, S.length = N := ⟨_, rfl⟩
  obtain ⟨M, hM⟩ : ∃ M, O.length = M := ⟨_, rfl⟩
  have HN := hide hN
  have HM := hide hM
  rw [hN] at hl0
  rw [hM] at hl1
  rw [hN, hM]
  have HL := hide (And.intro hl0 hl1)
  have NA := new_any w
  clear hw0 hw1 hN hM hl0 hl1
  go_enter Try.func35, Try.ntmps35
  go_wp2_with (go_at_call 16; refine NA.mono ?_; rintro e w1 ⟨rfl, hm1, k1⟩)
  obtain ⟨mb, hmb⟩ : ∃ mb, w.heap.size = mb := ⟨_, rfl⟩
  have HMB : Hid (w.heap.size ≤ mb) := by show w.heap.size ≤ mb; omega
  rw [hmb] at hm1 ⊢
  obtain ⟨rb, hrb⟩ : ∃ rb, w1.heap.size = rb := ⟨_, rfl⟩
  have HRB : Hid (w.heap.size ≤ rb) := by show w.heap.size ≤ rb; have := k1.size; omega
  have HM1 : Hid (Both w mb rb 0 (w1.alloc (.cells #[.int .i64 0, .slice none 0 0, .slice none 0 0] 52)) .nil) := ⟨hm1.nu (Kp.alloc _ _ _), ⟨.slice none 0 0, .slice none 0 0, by rw [← hrb]; exact heap_alloc_new w1 _, ⟨rfl, .inl ⟨rfl, rfl⟩⟩, ⟨rfl, .inl ⟨rfl, rfl⟩⟩, fun g h => by cases h⟩, Nat.le_refl _, k1.andAlloc _⟩
  rw [hrb]
  clear NA hmb hm1 k1 hrb
  go_loopw [8] (fun i wr => ∃ (n : Nat) (t : T (Int × Int)), i = .int .i64 (n : Int) ∧ n ≤ N ∧ Hid (Both w mb rb n wr t)) (fun i _ => N - (intOf i).toNat)
  case atStart => exact ⟨0, .nil, rfl, Nat.zero_le _, HM1.out⟩
  case round =>
    generalize wr = wl at *
    obtain ⟨i, t, rfl, hi, hh⟩ := hrel
    by_cases hlt : i < N
    · obtain ⟨hm, ⟨vk, vv, hr⟩, hsz, kw⟩ := hh.out
      obtain ⟨s, hs⟩ : ∃ s, S[i]? = some s := ⟨_, List.getElem?_eq_getElem (by rw [HN.out]; exact hlt)⟩
      have PU := put_any hm s (i : Int) (by have := HL.out.1; omega)
      have HR : Hid (∀ w2, Mp w2 mb (putT s (i : Int) t) → Kp (fun i => i = mb) wl w2 → Rm w.heap.size w2 rb 0 vk vv t.xs ∧ Calls Try.prog 36 #[.pointer (some ⟨rb, 0, none⟩), .int .i64 s, .int .i64 (i : Int)] w2 fun e w' => e = .returned (.tuple #[ov (getT s t), .bool (T.fd (sd s) t).2]) ∧ (∃ vk' vv', Rm w.heap.size w' rb 0 vk' vv' (putT s (i : Int) t).xs) ∧ Kp (fun i => i = rb ∨ vv.ownBlock = some i) w2 w') := fun w2 hm2 k2 => by
        have r2 := hr.keepM hm k2
        exact ⟨r2, rput_T r2 hm.srt (Nat.le_trans kw.size k2.size) s (i : Int) (by rw [T.xs_length]; have := HL.out.1; omega)⟩
      obtain ⟨b0, off0, ead, hc⟩ := HW0.out wl kw i s hs
      subst ead
      have HCI : Hid (∀ V, Kp Nu w V → V.cell? ⟨b0, off0 + i, none⟩ = some (.int .i64 s)) := fun V k => by
        obtain ⟨b, off, e, h⟩ := HW0.out V k i s hs
        cases e; exact h
      have hltI : (i : Int) < (N : Int) := by omega
      have hi0 : (0 : Int) ≤ (i : Int) := by omega
      have HI : Hid (i < N ∧ Kp Nu w wl ∧ t.sz ≤ i) := ⟨hlt, kw, hsz⟩
      have HAI : Hid ((i : Int) + 1 = ((i + 1 : Nat) : Int) ∧ wrap64 ((i : Int) + 1) = ((i + 1 : Nat) : Int)) := ⟨by omega, by have := HL.out.1; unfold wrap64; omega⟩
      clear hh hm hr hsz kw hs hi hlt HM1
      go_wp2_with (first
        | (go_at_call 17; refine PU.mono ?_; rintro e w2 ⟨rfl, hm2, k2⟩; obtain ⟨r2, RP⟩ := HR.out w2 hm2 k2; have c2 := HCI.out w2 (kp_newI HMB.out HI.out.2.1 k2); have H2 := hide (And.intro hm2 (And.intro k2 r2)); clear hm2 k2 r2)
        | (go_at_call 36; refine RP.mono ?_; rintro e w3 ⟨rfl, r3, k3⟩; have H3 := hide (Both.put HMB.out HRB.out HI.out.2.2 HI.out.2.1 H2.out.1 H2.out.2.1 H2.out.2.2 r3 k3); clear r3 k3))
      go_roundw
      case rel => exact ⟨i + 1, _, by first | exact congrArg (Value.int .i64) HAI.out.1 | exact congrArg (Value.int .i64) HAI.out.2, HI.out.1, H3.out⟩
      case measure => first | exact lt_mI _ HAI.out.1 HI.out.1 | exact lt_mI _ HAI.out.2 HI.out.1
    · obtain rfl : i = N := by omega
      have HT0 := hide hh.out
      have hge : ¬ (i : Int) < (i : Int) := by omega
      clear hh hi hlt HM1
      go_wp2_with fail
      clear hge
      go_loopw [9] (fun k wr2 => ∃ (j : Nat) (t2 : T (Int × Int)), k = .int .i64 (j : Int) ∧ j ≤ M ∧ Hid (Both w mb rb i wr2 t2)) (fun k _ => M - (intOf k).toNat)
      case atStart => exact ⟨0, t, rfl, Nat.zero_le _, HT0.out⟩
      case round =>
        clear HT0
        generalize wr = wq at *
        obtain ⟨j, t2, rfl, hj, hh2⟩ := hrel
        by_cases hlt : j < M
        · obtain ⟨hm, ⟨vk, vv, hr⟩, hsz, kw⟩ := hh2.out
          obtain ⟨o, ho⟩ : ∃ o, O[j]? = some o := ⟨_, List.getElem?_eq_getElem (by rw [HM.out]; exact hlt)⟩
          have DE := del_any hm o (by have := HL.out.1; omega)
          have HR : Hid (∀ w2, Mp w2 mb (delT o t2) → Kp (fun i => i = mb) wq w2 → Rm w.heap.size w2 rb 0 vk vv t2.xs ∧ Calls Try.prog 42 #[.pointer (some ⟨rb, 0, none⟩), .int .i64 o] w2 fun e w' => e = .returned (.tuple #[ov (getT o t2), .bool (T.fd (sd o) t2).2]) ∧ (∃ vk' vv', Rm w.heap.size w' rb 0 vk' vv' (delT o t2).xs) ∧ Kp (fun i => i = rb ∨ vv.ownBlock = some i) w2 w') := fun w2 hm2 k2 => by
            have r2 := hr.keepM hm k2
            exact ⟨r2, rdel_T r2 hm.srt (Nat.le_trans kw.size k2.size) o (by rw [T.xs_length]; have := HL.out.1; omega)⟩
          obtain ⟨b1, off1, ead, hc⟩ := HW1.out wq kw j o ho
          subst ead
          have HCO : Hid (∀ V, Kp Nu w V → V.cell? ⟨b1, off1 + j, none⟩ = some (.int .i64 o)) := fun V k => by
            obtain ⟨b, off, e, h⟩ := HW1.out V k j o ho
            cases e; exact h
          have hltI : (j : Int) < (M : Int) := by omega
          have hj0 : (0 : Int) ≤ (j : Int) := by omega
          have HJ : Hid (j < M ∧ Kp Nu w wq ∧ t2.sz ≤ i) := ⟨hlt, kw, hsz⟩
          have HAJ : Hid ((j : Int) + 1 = ((j + 1 : Nat) : Int) ∧ wrap64 ((j : Int) + 1) = ((j + 1 : Nat) : Int)) := ⟨by omega, by have := HL.out.2; unfold wrap64; omega⟩
          clear hh2 hm hr hsz kw ho hj hlt
          go_wp2_with (first
            | (go_at_call 24; refine DE.mono ?_; rintro e w2 ⟨rfl, hm2, k2⟩; obtain ⟨r2, RP⟩ := HR.out w2 hm2 k2; have c2 := HCO.out w2 (kp_newI HMB.out HJ.out.2.1 k2); have H2 := hide (And.intro hm2 (And.intro k2 r2)); clear hm2 k2 r2)
            | (go_at_call 42; refine RP.mono ?_; rintro e w3 ⟨rfl, r3, k3⟩; have H3 := hide (Both.del HMB.out HRB.out HJ.out.2.2 HJ.out.2.1 H2.out.1 H2.out.2.1 H2.out.2.2 r3 k3); clear r3 k3))
          go_roundw
          case rel => exact ⟨j + 1, _, by first | exact congrArg (Value.int .i64) HAJ.out.1 | exact congrArg (Value.int .i64) HAJ.out.2, HJ.out.1, H3.out⟩
          case measure => first | exact lt_mI _ HAJ.out.1 HJ.out.1 | exact lt_mI _ HAJ.out.2 HJ.out.1
        · obtain rfl : j = M := by omega
          have hge : ¬ (j : Int) < (j : Int) := by omega
          have HT := hide hh2.out
          clear hh2 hj hlt
          go_wp2_with fail
          go_ret2
          exact ⟨mb, rb, rfl, HMB.out, HRB.out, t2, HT.out⟩
end Go.Proofs.Ytchealdgncgjoaa.StI
