import Derived.Test.YtbhdhoeaogbfbaaEnN
import Derived.Test.YtbhdhoeaogbfbaaEnP
import Derived.Test.YtbhdhoeaogbfbaaEnS
namespace Go.Proofs.Ytbhdhoeaogbfbaa.Xo
open Go.RowKit
set_option linter.unusedVariables false
section
variable {B eb pb : Nat} {w w' : World} {me qn wn : Int} {ps : List Pr}
/-- what stands at the loop's head: all queues are empty, the numbers to peer 1 stand at c, peer 2 has had nothing -/
structure Spn (B : Nat) (w wr : World) (eb pb : Nat) (wn : Int) (ps : List Pr) (n : Nat) (c : Int) : Prop where
  en : En B wr eb pb 0 16 wn ps
  len : ps.length = n
  qs : ∀ (i : Nat) (p : Pr), ps[i]? = some p → p.qs = []
  one : ∃ p, ps[1]? = some p ∧ p.sent = c
  two : ∃ p, ps[2]? = some p ∧ p.sent = 0
  kp : Kp Nu w wr
theorem Spn.nu {wr wr' : World} {n : Nat} {c : Int} (h : Spn B w wr eb pb wn ps n c) (k : Kp Nu wr wr') : Spn B w wr' eb pb wn ps n c := ⟨h.en.nu k, h.len, h.qs, h.one, h.two, h.kp.andNu k⟩
theorem Dt.at {t sq : Int} {v : Value} {ys : List Int} (h : Dt w B v t sq ys) : ∃ r cap d, v = .slice (some ⟨r, 0, none⟩) 1 cap ∧ w.cell? ⟨r, 2, none⟩ = some (.int .u64 sq) ∧ w.cell? ⟨r, 17, none⟩ = some d ∧ Rd w d ys := by
  obtain ⟨d, h1, h2⟩ := h
  rcases h1.2 with ⟨_, h0⟩ | ⟨r, cap, cur, e, hB, hg, k1, k2, k3, k4⟩
  · omega
  · have key : ∀ j x, j < 18 → (outC t sq d)[j]? = some x → w.cell? ⟨r, j, none⟩ = some x := fun j x hj hx => by
      rw [← k4, List.getElem?_take_of_lt (by omega)] at hx
      exact cellAt hg j (by simpa using hx)
    exact ⟨r, cap, d, e, key 2 _ (by omega) rfl, key 17 _ (by omega) rfl, Rd.of_own h2⟩
set_option maxRecDepth 100000 in
set_option maxHeartbeats 8000000 in
theorem spent_good (w : World) (n lf : Nat) (window : Int) (hn3 : 3 ≤ n) (hn16 : n ≤ 16) (hw1 : 1 ≤ window) (hw16 : window ≤ 16) (hl : lf ≤ 40) (u : Value) (ys : List Int) (hu : Rd w u ys) (hy0 : 0 < ys.length) (hy : ys.length ≤ 3072) : Calls Try.prog 5 #[.int .i64 (n : Int), .int .i64 window, .int .i64 (lf : Int), u] w fun e w' => e = .returned (.bool true) ∧ Kp Nu w w' := by
  obtain ⟨adu, cpu, hue⟩ := hu.slice
  have a1 : ¬ (n : Int) < 3 := by omega
  have a2 : ¬ (n : Int) > 16 := by omega
  have a3 : ¬ window < 1 := by omega
  have a4 : ¬ window > 16 := by omega
  have a5 : ¬ (lf : Int) < 0 := by omega
  have a6 : ¬ (lf : Int) > 40 := by omega
  have a7 : ((ys.length : Int) == 0) = false := beq_eq_false_iff_ne.2 (by omega)
  have a8 : ¬ (ys.length : Int) > 3072 := by omega
  have a9 : (1 : Int) < (n : Int) := by omega
  have MK := fun W => mk_told W n hn16
  have g1 : IntKind.u64.wrap (lf : Int) = (lf : Int) := by rw [IntKind.wrap_u64]; omega
  have g2 : IntKind.u64.wrap (18446744073709551615 - (lf : Int)) = 18446744073709551615 - (lf : Int) := by rw [IntKind.wrap_u64]; omega
  have HU := hide (And.intro hu (And.intro hy0 hy))
  have HN := hide (And.intro hn3 (And.intro hn16 (And.intro hw1 (And.intro hw16 hl))))
  have hR0 : ∀ W : World, Row (W.alloc (.cells (flat (List.replicate n Pr0)).toArray 66)) W.heap.size 66 (List.replicate n Pr0) := fun W => heap_alloc_new W _
  have h1n : (List.replicate n Pr0)[1]? = some Pr0 := by rw [List.getElem?_replicate, if_pos (by omega)]
  have hfl : ((flat (List.replicate n Pr0)).set 6 (.int .u64 (18446744073709551615 - (lf : Int)))).set 7 (.int .u64 (18446744073709551615 - (lf : Int))) = flat ((((List.replicate n 0).set 1 (18446744073709551615 - (lf : Int)))).map PrA) := by
    have h1 := flat_set (List.replicate n Pr0) 1 Pr0 ⟨18446744073709551615 - (lf : Int), 0, .slice none 0 0, [], 0, 0, .slice none 0 0⟩ 0 (.int .u64 (18446744073709551615 - (lf : Int))) h1n (by omega) rfl
    have h2 := flat_set ((List.replicate n Pr0).set 1 ⟨18446744073709551615 - (lf : Int), 0, .slice none 0 0, [], 0, 0, .slice none 0 0⟩) 1 _ (PrA (18446744073709551615 - (lf : Int))) 1 (.int .u64 (18446744073709551615 - (lf : Int))) (set_self h1n _) (by omega) rfl
    rw [← h1, List.set_set] at h2
    rw [List.map_set, List.map_replicate]
    exact h2
  have hRA : ∀ (x : Obj) (L : List Value), ((w.alloc x).alloc (.cells L.toArray 66)).heap[w.heap.size + 1]? = some (.cells L.toArray 66 (0, 0)) := fun x L => by
    have h0 := heap_alloc_new (w.alloc x) (.cells L.toArray 66)
    have e0 : (w.alloc x).heap.size = w.heap.size + 1 := by simp
    rwa [e0] at h0
  have hl6 : 8 ≤ (flat (List.replicate n Pr0)).length := by rw [flat_length, List.length_replicate]; omega
  have q6 : (flat (List.replicate n Pr0))[6]? = some (.int .u64 0) := flat_at _ 1 Pr0 h1n 0 (by omega)
  have q7 : (flat (List.replicate n Pr0))[7]? = some (.int .u64 0) := flat_at _ 1 Pr0 h1n 1 (by omega)
  have R6 : ∀ x, ((w.alloc x).alloc (.cells (flat (List.replicate n Pr0)).toArray 66)).cell? ⟨w.heap.size + 1, 6, none⟩ = some (.int .u64 0) := fun x => cellAt (hRA x _) 6 (by simpa using q6)
  have F6 : ∀ x, ((w.alloc x).alloc (.cells (flat (List.replicate n Pr0)).toArray 66)).frozen? ⟨w.heap.size + 1, 6, none⟩ = false := fun x => free3 (hRA x _) 6
  have R7 : ∀ x v, ((w.alloc x).alloc (.cells ((flat (List.replicate n Pr0)).set 6 v).toArray 66)).cell? ⟨w.heap.size + 1, 7, none⟩ = some (.int .u64 0) := fun x v => cellAt (hRA x _) 7 (by rw [List.getElem?_toArray, List.getElem?_set_ne (by omega)]; exact q7)
  have F7 : ∀ x v, ((w.alloc x).alloc (.cells ((flat (List.replicate n Pr0)).set 6 v).toArray 66)).frozen? ⟨w.heap.size + 1, 7, none⟩ = false := fun x v => free3 (hRA x _) 7
  have LO := load_any (w := (w.alloc (.cells #[.slice (some ⟨w.heap.size + 1, 0, none⟩) n n] 24)).alloc (.cells (((flat (List.replicate n Pr0)).set 6 (.int .u64 (18446744073709551615 - (lf : Int)))).set 7 (.int .u64 (18446744073709551615 - (lf : Int)))).toArray 66)) (w.heap.size + 1) ((List.replicate n 0).set 1 (18446744073709551615 - (lf : Int))) n (by simp) (by rw [hfl]; exact hRA _ _) (by rw [List.getElem?_set_ne (by omega), List.getElem?_replicate, if_pos (by omega)]) (by omega) hn16 window hw1 hw16 (by
    intro a ha
    rcases List.mem_or_eq_of_mem_set ha with h | h
    · rw [List.mem_replicate] at h; omega
    · omega)
  clear hfl hRA hl6 q6 q7 h1n
  have HR0 := hide hR0
  subst hue
  generalize hN : ys.length = N at *
  have HNN := hide hN
  clear hN hu hy0 hy hn3 hn16 hw1 hw16 hl hR0
  go_enter Try.func5, Try.ntmps5
  go_wp2_with (first | (go_at_call 30; refine LO.mono ?_; rintro e w1 ⟨eb, pb, L, rfl, hE, hLl, hk1, hLp⟩; clear LO) | (go_at_call 18; refine (num_any _ _).mono ?_; rintro e wn1 ⟨rfl, hwn1⟩; obtain rfl := hwn1.symm))
  have kw1 : Kp Nu w w1 := (((Kp.refl Nu w).andAlloc _).andAlloc _).andNu hk1
  have HB : Hid (w.heap.size ≤ ((w.alloc (.cells #[.slice (some ⟨w.heap.size + 1, 0, none⟩) n n] 24)).alloc (.cells (((flat (List.replicate n Pr0)).set 6 (.int .u64 (18446744073709551615 - (lf : Int)))).set 7 (.int .u64 (18446744073709551615 - (lf : Int)))).toArray 66)).heap.size) := by
    show _ ≤ _
    simp
    omega
  generalize ((w.alloc (.cells #[.slice (some ⟨w.heap.size + 1, 0, none⟩) n n] 24)).alloc (.cells (((flat (List.replicate n Pr0)).set 6 (.int .u64 (18446744073709551615 - (lf : Int)))).set 7 (.int .u64 (18446744073709551615 - (lf : Int)))).toArray 66)).heap.size = B at *
  have HI0 : Hid (Spn B w w1 eb pb window L n (18446744073709551615 - (lf : Int))) := by
    obtain ⟨hn3, hn16, hw1, hw16, hl⟩ := HN.out
    refine ⟨hE, hLl, fun i p hi => (hLp i p hi).2.1, ?_, ?_, kw1⟩
    · obtain ⟨p, hp⟩ : ∃ p, L[1]? = some p := ⟨L[1], List.getElem?_eq_getElem (by omega)⟩
      refine ⟨p, hp, ?_⟩
      have h1 := (hLp 1 p hp).1
      rw [List.getElem?_set_self (by simp; omega)] at h1
      exact (Option.some.inj h1).symm
    · obtain ⟨p, hp⟩ : ∃ p, L[2]? = some p := ⟨L[2], List.getElem?_eq_getElem (by omega)⟩
      refine ⟨p, hp, ?_⟩
      have h1 := (hLp 2 p hp).1
      rw [List.getElem?_set_ne (by omega), List.getElem?_replicate, if_pos (by omega)] at h1
      exact (Option.some.inj h1).symm
  clear hE hLl hk1 hLp kw1 R6 R7 F6 F7 HR0 MK a1 a2 a3 a4 a5 a6 a7 a8
  go_loopw [12] (fun i wr => ∃ (k : Nat) (ps : List Pr), k ≤ lf ∧ i = .int .i64 (k : Int) ∧ Hid (Spn B w wr eb pb window ps n (18446744073709551615 - (lf : Int) + (k : Int)))) (fun i _ => lf - (intOf i).toNat)
  case atStart => exact ⟨0, L, by omega, rfl, by simpa using HI0⟩
  case round =>
    obtain ⟨k, ps, hkl, rfl, HI⟩ := hrel
    clear HI0
    by_cases hlt : k < lf
    · obtain ⟨hE, hpl, hpq, ⟨p1, hp1, hs1⟩, hp2, kwr⟩ := HI.out
      obtain ⟨hn3, hn16, hw1, hw16, hl⟩ := HN.out
      obtain ⟨hu, hy0, hy⟩ := HU.out
      have hq1 := hpq 1 p1 hp1
      have hltI : (k : Int) < (lf : Int) := by omega
      have m1 : wrap64 ((lf : Int) - (k : Int)) = (lf : Int) - (k : Int) := wrap_small (by omega) (by omega)
      have hur : Rd wr (.slice adu N cpu) ys := by have := hu.nu kwr; exact this
      have hua : ∀ a n c, (Value.slice adu N cpu) = .slice (some a) n c → a.block ≠ pb := fun a n' c e => by
        have hbl : a.block < w.heap.size := by
          rcases hu with ⟨e1, e2⟩ | ⟨a', c', e1, hc⟩
          · rw [e1] at e; cases e
          · rw [e1] at e
            cases e
            obtain ⟨y, r, rfl⟩ : ∃ y r, ys = y :: r := by
              cases ys with
              | nil => simp at e1; have := HNN.out; simp at this; omega
              | cons y r => exact ⟨y, r, rfl⟩
            have := World.block_lt_of_cell? w _ (hc 0 _ (by simp [cs]; rfl))
            rwa [add_block] at this
        have := hE.hp
        have := HB.out
        omega
      have c1 : IntKind.u64.wrap (k : Int) = (k : Int) := by rw [IntKind.wrap_u64]; omega
      have c2 : IntKind.u64.wrap (18446744073709551615 - (lf : Int) + (k : Int)) = 18446744073709551615 - (lf : Int) + (k : Int) := by rw [IntKind.wrap_u64]; omega
      have c3 : IntKind.u64.wrap (18446744073709551615 - (lf : Int) + (k : Int) + 1) = 18446744073709551615 - (lf : Int) + (k : Int) + 1 := by rw [IntKind.wrap_u64]; omega
      have hwk : Hid (wrap64 ((k : Int) + 1) = ((k + 1 : Nat) : Int)) := wrap_small (by omega) (by omega)
      have SO : ∀ W, Kp Nu wr W → Calls Try.prog 23 #[.pointer (some ⟨eb, 0, none⟩), .int .u8 1, .slice adu N cpu] W fun e w' => ∃ r cap d, e = .returned (.tuple #[.slice (some ⟨r, 0, none⟩) 1 cap, .int .i64 0]) ∧ w'.cell? ⟨r, 2, none⟩ = some (.int .u64 (18446744073709551615 - (lf : Int) + (k : Int) + 1)) ∧ w'.cell? ⟨r, 17, none⟩ = some d ∧ Hid (Rd w' d ys ∧ Kp Nu w w' ∧ ∃ q' d', En B w' eb pb 0 16 window (ps.set 1 ⟨p1.sent + 1, p1.acked, q', p1.qs ++ [(d', ys)], p1.mask, p1.dlv, p1.e⟩)) := fun W kW => by
        refine (send_ok (hE.nu kW) 1 p1 hp1 (by decide) (by rw [hq1]; simp; omega) (.slice adu N cpu) ys (hur.nu kW) hua (by rw [HNN.out]; omega) (by rw [HNN.out]; omega) (by omega)).mono ?_
        rintro e w' ⟨v, q', d', rfl, hD, hE', hk'⟩
        obtain ⟨r, cap, d, rfl, e2, e17, hrd⟩ := hD.at
        rw [hs1] at e2
        refine ⟨r, cap, d, rfl, e2, e17, hrd, (kwr.andNu kW).trans hk' (fun i hi e => by have := HB.out; have e : B ≤ i := e; omega), q', d', hE'⟩
      have H1 := hide (And.intro hE (And.intro hpl (And.intro hpq (And.intro hp1 (And.intro hs1 (And.intro hp2 (And.intro kwr (And.intro hq1 hur))))))))
      have NX : ∀ (w3 : World) (d : Value), Hid (Rd w3 d ys ∧ Kp Nu w w3 ∧ ∃ q' d', En B w3 eb pb 0 16 window (ps.set 1 ⟨p1.sent + 1, p1.acked, q', p1.qs ++ [(d', ys)], p1.mask, p1.dlv, p1.e⟩)) → (∀ W, Kp Nu w3 W → Calls Try.prog 24 #[d, .slice adu N cpu] W fun e w' => e = .returned (.bool true) ∧ Kp Nu w3 w') ∧ ∀ W, Kp Nu w3 W → Calls Try.prog 32 #[.pointer (some ⟨eb, 0, none⟩), .int .u8 1, .agg #[.int .u8 11, .int .u64 (18446744073709551615 - (lf : Int) + (k : Int) + 1), .int .u64 0, .int .u64 0, .slice none 0 0, .slice none 0 0, .bool false, .int .u8 0, .int .u8 0, .int .u8 0, .int .u32 0, .int .u32 0, .int .u64 0, .int .u8 0, .slice none 0 0, .slice none 0 0, .slice none 0 0]] W fun e w' => e = .returned (.tuple #[.agg #[.slice none 0 0, .slice none 0 0, .bool true], .int .i64 0]) ∧ Hid (∃ ps', Spn B w w' eb pb window ps' n (18446744073709551615 - (lf : Int) + (k : Int) + 1)) := fun w3 d H3 => by
        obtain ⟨hrd, kw3, q', d', hE3⟩ := H3.out
        have hl1 : 1 < ps.length := by omega
        have hp3 : (ps.set 1 ⟨p1.sent + 1, p1.acked, q', p1.qs ++ [(d', ys)], p1.mask, p1.dlv, p1.e⟩)[1]? = some ⟨p1.sent + 1, p1.acked, q', p1.qs ++ [(d', ys)], p1.mask, p1.dlv, p1.e⟩ := set_self hp1 _
        refine ⟨fun W kW => ?_, fun W kW => ?_⟩
        · refine (same_any (hrd.nu kW) ((hu.nu kw3).nu kW) (by rw [HNN.out]; omega)).mono ?_
          rintro e w' ⟨rfl, hk⟩
          exact ⟨by simp, kW.andNu hk⟩
        · have TK := take_ack (hE3.nu kW) 1 _ hp3 (by decide) (by simp) (by simp [hq1]; omega)
          simp only [ackV, hs1] at TK
          refine TK.mono ?_
          rintro e w' ⟨q'', rfl, hE5, hk5⟩
          rw [List.set_set] at hE5
          refine ⟨rfl, _, hE5, by simp [hpl], fun i p hi => ?_, ⟨_, set_self hp1 _, rfl⟩, ?_, (kw3.andNu kW).trans hk5 (fun i hi e => by have := HB.out; have e : B ≤ i := e; omega)⟩
          · by_cases hi1 : i = 1
            · subst hi1
              rw [List.getElem?_set_self hl1] at hi
              cases hi; rfl
            · rw [List.getElem?_set_ne (Ne.symm hi1)] at hi
              exact hpq i p hi
          · obtain ⟨p2, h2, h3⟩ := hp2
            exact ⟨p2, by rw [List.getElem?_set_ne (by omega)]; exact h2, h3⟩
      have hcase : (∃ R : Int, ((lf : Int) - (k : Int) > 16 ∧ R = 16 ∨ ¬ (lf : Int) - (k : Int) > 16 ∧ R = (lf : Int) - (k : Int)) ∧ Calls Try.prog 31 #[.pointer (some ⟨eb, 0, none⟩), .int .u8 1] wr fun e w' => e = .returned (.int .i64 R) ∧ Kp Nu wr w') := by
        by_cases hmo : (lf : Int) - (k : Int) > 16
        · exact ⟨16, .inl ⟨hmo, rfl⟩, room_ok hE 1 p1 hp1 (by decide) 16 (by rw [hq1, hs1]; simp; omega) (by rw [hq1]; simp)⟩
        · exact ⟨_, .inr ⟨hmo, rfl⟩, room_ok hE 1 p1 hp1 (by decide) ((lf : Int) - (k : Int)) (by rw [hq1, hs1]; simp; omega) (by rw [hq1]; simp)⟩
      clear hE hpl hpq hp1 hs1 hp2 kwr hq1 hur hua hn3 hn16 hw1 hw16 hl hu hy0 hy H1
      obtain ⟨R, hcase, RO⟩ := hcase
      rcases hcase with ⟨hmo, rfl⟩ | ⟨hmo, rfl⟩
      all_goals
        go_wp2_with (first | (go_at_call 31; refine RO.mono ?_; rintro e w2 ⟨rfl, hk2⟩; clear RO) | (go_at_call 23; refine (SO _ hk2).mono ?_; rintro e w3 ⟨r, cap, d, rfl, e2, e17, H3⟩; obtain ⟨SA, TK⟩ := NX w3 d H3; clear SO NX) | (go_at_call 18; refine (num_any _ _).mono ?_; rintro e wn2 ⟨rfl, hwn2⟩; obtain rfl := hwn2.symm) | (go_at_call 24; refine (SA _ (Kp.refl _ _)).mono ?_; rintro e w4 ⟨rfl, hk4⟩; have e24 : w4.cell? ⟨r, 2, none⟩ = some (.int .u64 (18446744073709551615 - (lf : Int) + (k : Int) + 1)) := (World.cell?_of_block (hk4.block r (World.block_lt_of_cell? w3 _ e2) (fun h => h))).trans e2; clear SA) | (go_at_call 32; refine (TK _ hk4).mono ?_; rintro e w5 ⟨rfl, H5⟩; clear TK))
        obtain ⟨ps', hS⟩ := H5.out
        refine ⟨⟨k + 1, ps', hlt, by rw [hwk.out], ?_⟩, lt_m _ hwk.out hlt⟩
        have e9 : 18446744073709551615 - (lf : Int) + ((k + 1 : Nat) : Int) = 18446744073709551615 - (lf : Int) + (k : Int) + 1 := by omega
        rw [e9]
        exact hS.nu ((Kp.refl _ _).andAlloc _)
    · obtain rfl : k = lf := by omega
      clear hlt hkl
      obtain ⟨hE, hpl, hpq, ⟨p1, hp1, hs1⟩, ⟨p2, hp2, hs2⟩, kwr⟩ := HI.out
      obtain ⟨hn3, hn16, hw1, hw16, hl⟩ := HN.out
      obtain ⟨hu, hy0, hy⟩ := HU.out
      have hq1 := hpq 1 p1 hp1
      have hq2 := hpq 2 p2 hp2
      have hs1' : p1.sent = 18446744073709551615 := by rw [hs1]; omega
      have hur : Rd wr (.slice adu N cpu) ys := hu.nu kwr
      have hnn : ((n : Int) != (n : Int)) = false := by simp
      have hua : ∀ a n c, (Value.slice adu N cpu) = .slice (some a) n c → a.block ≠ pb := fun a n' c e => by
        have hbl : a.block < w.heap.size := by
          rcases hu with ⟨e1, e2⟩ | ⟨a', c', e1, hc⟩
          · rw [e1] at e; cases e
          · rw [e1] at e
            cases e
            obtain ⟨y, r, rfl⟩ : ∃ y r, ys = y :: r := by
              cases ys with
              | nil => simp at e1; have := HNN.out; simp at this; omega
              | cons y r => exact ⟨y, r, rfl⟩
            have := World.block_lt_of_cell? w _ (hc 0 _ (by simp [cs]; rfl))
            rwa [add_block] at this
        have := hE.hp
        have := HB.out
        omega
      have ST : ∀ W, Kp Nu wr W → Calls Try.prog 20 #[.pointer (some ⟨eb, 0, none⟩)] W fun e w' => ∃ tb, e = .returned (.agg #[.slice (some ⟨tb, 0, none⟩) n n]) ∧ Kp Nu W w' ∧ Hid (∃ ts, Row w' tb 66 ts ∧ ts.length = n ∧ ∀ (i : Nat) (p t : Pr), ps[i]? = some p → ts[i]? = some t → Tl p t) := fun W kW => by
        refine (state_any (hE.nu kW) hpq).mono ?_
        rintro e w' ⟨tb, ts, rfl, h1, h2, h3, h4⟩
        rw [hpl] at h2
        rw [hpl]
        exact ⟨tb, rfl, h4, ts, h1, h2, h3⟩
      have SS : ∀ W, Kp Nu wr W → Calls Try.prog 23 #[.pointer (some ⟨eb, 0, none⟩), .int .u8 1, .slice adu N cpu] W fun e w' => e = .returned (.tuple #[.slice none 0 0, .int .i64 83]) ∧ Kp Nu W w' := fun W kW =>
        (send_spent (hE.nu kW) 1 p1 hp1 (by decide) (by rw [hq1]; simp) _ ys (hur.nu kW) (by rw [HNN.out]; omega) (by rw [HNN.out]; omega) hs1').mono (by rintro e w' ⟨rfl, hk⟩; exact ⟨rfl, hk⟩)
      have RM : ∀ W, Kp Nu wr W → Calls Try.prog 31 #[.pointer (some ⟨eb, 0, none⟩), .int .u8 1] W fun e w' => e = .returned (.int .i64 0) ∧ Kp Nu W w' := fun W kW =>
        (room_ok (hE.nu kW) 1 p1 hp1 (by decide) 0 (by rw [hq1, hs1']; simp; omega) (by rw [hq1]; simp)).mono (by rintro e w' ⟨rfl, hk⟩; exact ⟨rfl, hk⟩)
      have S2 : ∀ W, Kp Nu wr W → Calls Try.prog 23 #[.pointer (some ⟨eb, 0, none⟩), .int .u8 2, .slice adu N cpu] W fun e w' => ∃ r cap, e = .returned (.tuple #[.slice (some ⟨r, 0, none⟩) 1 cap, .int .i64 0]) ∧ w'.cell? ⟨r, 2, none⟩ = some (.int .u64 1) ∧ Hid (Kp Nu w w') := fun W kW => by
        refine (send_ok (hE.nu kW) 2 p2 hp2 (by decide) (by rw [hq2]; simp; omega) (.slice adu N cpu) ys (hur.nu kW) hua (by rw [HNN.out]; omega) (by rw [HNN.out]; omega) (by rw [hs2]; omega)).mono ?_
        rintro e w' ⟨v, q', d', rfl, hD, hE', hk'⟩
        obtain ⟨r, cap, d, rfl, e2, e17, hrd⟩ := hD.at
        rw [hs2] at e2
        exact ⟨r, cap, rfl, e2, (kwr.andNu kW).trans hk' (fun i hi e => by have := HB.out; have e : B ≤ i := e; omega)⟩
      have SE : ∀ (W : World) (ta tb : Nat), (∃ ts, Row W ta 66 ts ∧ ts.length = n ∧ ∀ (i : Nat) (p t : Pr), ps[i]? = some p → ts[i]? = some t → Tl p t) → (∃ ts, Row W tb 66 ts ∧ ts.length = n ∧ ∀ (i : Nat) (p t : Pr), ps[i]? = some p → ts[i]? = some t → Tl p t) → Calls Try.prog 19 #[.agg #[.slice (some ⟨ta, 0, none⟩) n n], .agg #[.slice (some ⟨tb, 0, none⟩) n n]] W fun e w' => e = .returned (.bool true) ∧ Kp Nu W w' := fun W ta tb h1 h2 => by
        obtain ⟨ts, h11, h12, h13⟩ := h1
        obtain ⟨us, h21, h22, h23⟩ := h2
        refine (states_true ta tb n ts us h11 h21 h12 h22 hn16 (fun i t u hi hj => ?_)).mono (by rintro e w' ⟨rfl, hk⟩; exact ⟨rfl, hk⟩)
        have hil : i < ps.length := by have := (List.getElem?_eq_some_iff.1 hi).1; omega
        obtain ⟨p, hp⟩ : ∃ p, ps[i]? = some p := ⟨ps[i], List.getElem?_eq_getElem hil⟩
        obtain ⟨a1, a2, a3, a4, a5, a6⟩ := h13 i p t hp hi
        obtain ⟨b1, b2, b3, b4, b5, b6⟩ := h23 i p u hp hj
        exact ⟨a1.trans b1.symm, a2.trans b2.symm, a3.trans b3.symm, a4.trans b4.symm, a5, a6, b5, b6⟩
      clear hE hpl hpq hp1 hs1 hs1' hp2 hs2 hq1 hq2 hur hua hn3 hn16 hw1 hw16 hl hu hy0 hy
      go_wp2_with (first | (go_at_call 20; refine (ST _ (Kp.refl _ _)).mono ?_; rintro e w2 ⟨tb, rfl, hk2, HT2⟩) | (go_at_call 23; refine (SS _ (hk2.andAlloc _)).mono ?_; rintro e w3 ⟨rfl, hk3⟩; clear SS))
      have hbx := new_at w2 _ hk3
      have k23 : Kp Nu w2 w3 := ((Kp.refl Nu w2).andAlloc _).andNu hk3
      have k3 : Kp Nu wr w3 := hk2.andNu k23
      have HSb : ∀ W, Kp Nu w3 W → W.cell? ⟨w2.heap.size, 0, none⟩ = some (.slice (some ⟨tb, 0, none⟩) n n) := fun W kW => cell1 ((kW.block _ (blk_lt hbx) (fun h => h)).trans hbx)
      have RM3 : ∀ W, Kp Nu w3 W → Calls Try.prog 31 #[.pointer (some ⟨eb, 0, none⟩), .int .u8 1] W fun e w' => e = .returned (.int .i64 0) ∧ Kp Nu w3 w' := fun W kW => (RM W (k3.andNu kW)).mono (by rintro e w' ⟨rfl, hk⟩; exact ⟨rfl, kW.andNu hk⟩)
      have ST3 : ∀ W, Kp Nu w3 W → Calls Try.prog 20 #[.pointer (some ⟨eb, 0, none⟩)] W fun e w' => ∃ t2, e = .returned (.agg #[.slice (some ⟨t2, 0, none⟩) n n]) ∧ Kp Nu w3 w' ∧ Calls Try.prog 19 #[.agg #[.slice (some ⟨tb, 0, none⟩) n n], .agg #[.slice (some ⟨t2, 0, none⟩) n n]] w' fun e w'' => e = .returned (.bool true) ∧ Kp Nu w3 w'' := fun W kW => by
        refine (ST W (k3.andNu kW)).mono ?_
        rintro e w' ⟨t2, rfl, hk, HT⟩
        refine ⟨t2, rfl, kW.andNu hk, ?_⟩
        obtain ⟨ts, h1, h2, h3⟩ := HT2.out
        exact (SE w' tb t2 ⟨ts, h1.keep (((k23.andNu kW).andNu hk).block _ (blk_lt h1) (fun h => h)), h2, h3⟩ HT.out).mono (by rintro e w'' ⟨rfl, hk''⟩; exact ⟨rfl, (kW.andNu hk).andNu hk''⟩)
      have K3 := hide k3
      clear hbx k23 hk2 hk3 HT2 ST SE RM k3
      go_region_held3 (fun W => W.cell? ⟨w2.heap.size, 0, none⟩ = some (.slice (some ⟨tb, 0, none⟩) n n)) (first | (refine HSb _ ?_; repeat (first | assumption | exact Kp.refl _ _ | apply Kp.drew))) (first | (go_at_call 18; refine (num_any _ _).mono ?_; rintro e wn3 ⟨rfl, hwn3⟩; obtain rfl := hwn3.symm) | (go_at_call 31; refine (RM3 _ ?_).mono ?_; (repeat (first | assumption | exact Kp.refl _ _ | apply Kp.drew)); rintro e w5 ⟨rfl, hk5⟩; clear RM3) | (go_at_call 20; refine (ST3 _ ?_).mono ?_; (repeat (first | assumption | exact Kp.refl _ _ | apply Kp.drew)); rintro e w6 ⟨t2, rfl, hk6, SE6⟩; clear ST3) | (go_at_call 19; refine SE6.mono ?_; rintro e w7 ⟨rfl, hk7⟩))
      have S27 := S2 w7 (K3.out.andNu hk7)
      clear S2
      go_wp2_with (first | (go_at_call 23; refine S27.mono ?_; rintro e w8 ⟨r, cap, rfl, e2, H8⟩; clear S27) | (go_at_call 18; refine (num_any _ _).mono ?_; rintro e wn4 ⟨rfl, hwn4⟩; obtain rfl := hwn4.symm))
      go_ret
      exact ⟨rfl, H8.out⟩
end
end Go.Proofs.Ytbhdhoeaogbfbaa.Xo
