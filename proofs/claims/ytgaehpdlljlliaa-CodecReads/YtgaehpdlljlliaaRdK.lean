import Derived.Test.YtgaehpdlljlliaaRdJ
namespace Go.Proofs.Ytgaehpdlljlliaa.Cd
open Go.RowKit
set_option linter.unusedVariables false

section
variable {w : World} {b : Nat} {there : Bool} {d : Value} {D : List Int} {A err : Int}
theorem rd_set' {xs : List Int} {v : Value} (h : Rd w v xs) (a : Addr) (u : Value) (h1 : xs ≠ [] → at? v ≠ some a.block) : Rd (w.setCell a u) v xs := by
  by_cases e : xs = []
  · subst e
    rcases h with ⟨rfl, _⟩ | ⟨a', cap, rfl, _⟩
    · exact .inl ⟨rfl, rfl⟩
    · exact .inr ⟨a', cap, rfl, fun j u hj => by simp [cs] at hj⟩
  · exact h.andSet a u (h1 e)
theorem Rg.other (h : Rg w b there d D A err) (a : Addr) (v : Value) (h1 : a.block ≠ b) (h2 : D ≠ [] → at? d ≠ some a.block) : Rg (w.setCell a v) b there d D A err :=
  ⟨((Kp.setCell w a v).block b h.lt (fun e => h1 e.symm)).trans h.blk, rd_set' h.rd a v h2, h.ne, h.a0, h.a1, h.len⟩
theorem Rg.setAt (h : Rg w b there d D A err) (A' : Int) (h0 : 0 ≤ A') (h1 : A' ≤ (D.length : Int)) : Rg (w.setCell ⟨b, 2, none⟩ (.int .i64 A')) b there d D A' err := by
  refine ⟨?_, h.rd.andSet _ _ h.ne, h.ne, h0, h1, h.len⟩
  rw [set3 h.blk]; rfl
theorem Rg.setErr (h : Rg w b there d D A err) (q : Int) : Rg (w.setCell ⟨b, 3, none⟩ (.int .i64 q)) b there d D A q := by
  refine ⟨?_, h.rd.andSet _ _ h.ne, h.ne, h.a0, h.a1, h.len⟩
  rw [set3 h.blk]; rfl
theorem Kp.andB {w1 : World} (h : Kp (iS b) w w1) (o : Nat) (v : Value) : Kp (iS b) w (w1.setCell ⟨b, o, none⟩ v) := h.trans (Kp.setCell w1 ⟨b, o, none⟩ v) (fun i _ e => e)
theorem set_far {i : Nat} {o : Obj} (h : w.heap[i]? = some o) (a : Addr) (v : Value) (hne : i ≠ a.block) : (w.setCell a v).heap[i]? = some o := ((Kp.setCell w a v).block i (block_lt h) hne).trans h
theorem Kp.ofNu {w' : World} (k : Kp Nu w w') : Kp (iS b) w w' := k.mono (fun _ _ h => h.elim)
end

theorem tk_stay (kind n err : Int) (xs : List Int) (he : err ≠ 0) : tk kind n err xs = ⟨0, 0, false, [], err, xs⟩ := by
  have e1 : ∀ m, rdN m err xs = (0, err, xs) := fun m => by simp only [rdN, if_neg he]
  have e2 : rdV err xs = (0, err, xs) := by simp only [rdV, if_neg he]
  have e3 : rdF err xs = (false, err, xs) := by unfold rdF; rw [if_neg he]
  have e4 : rdR n err xs = ([], err, xs) := by simp only [rdR, if_neg he]
  have e5 : rdB n err xs = ([], err, xs) := by simp only [rdB, if_neg he]
  unfold tk
  simp only [e1, e2, e3, e4, e5, tkN, tkB, show uz 0 = 0 from rfl, ite_self]

/-- Take where there is no reader, or its error stands -/
theorem gTake_off {w : World} {b : Nat} {there : Bool} {d : Value} {D : List Int} {A err : Int} (h : Rg w b there d D A err) (hoff : there = false ∨ err ≠ 0) (kind n : Int) :
    Calls Try.prog 54 #[.pointer (some ⟨b, 0, none⟩), .int .i64 kind, .int .i64 n] w fun e w' => e = .returned (.agg #[.int .i64 0, .int .u64 0, .int .i64 0, .bool false, .slice none 0 0]) ∧ Kp Nu w w' := by
  have c := fun o => cell4 ((Below.heap_alloc w o b h.lt).trans h.blk)
  obtain ⟨c0, c1, c2, c3⟩ := cell4 h.blk
  obtain ⟨q0, q1, q2, q3⟩ := c (.cells #[.int .i64 0, .int .u64 0, .int .i64 0, .bool false, .slice none 0 0] 40)
  clear c
  cases there
  · go_enter Try.func54, Try.ntmps54
    go_wp2
    refine bodyPost_ret (v := .agg #[.int .i64 0, .int .u64 0, .int .i64 0, .bool false, .slice none 0 0]) (by simp [results, Try.results54, go_sem]) rfl ⟨rfl, ?_⟩
    exact (Kp.refl Nu w).andAlloc _
  · have he : err ≠ 0 := by rcases hoff with e | e; cases e; exact e
    have he' : (err != 0) = true := by simpa using he
    go_enter Try.func54, Try.ntmps54
    go_wp2
    refine bodyPost_ret (v := .agg #[.int .i64 0, .int .u64 0, .int .i64 0, .bool false, .slice none 0 0]) (by simp [results, Try.results54, go_sem]) rfl ⟨rfl, ?_⟩
    exact (Kp.refl Nu w).andAlloc _

theorem two_box {w w2 : World} (k : Kp Nu ((w.alloc (.cells #[.int .i64 0, .int .u64 0, .int .i64 0, .bool false, .slice none 0 0] 40)).alloc (.cells #[.int .i64 0, .int .u64 0, .int .i64 0, .bool false, .slice none 0 0] 40)).drew w2) :
    w2.heap[w.heap.size + 1]? = some (.cells #[.int .i64 0, .int .u64 0, .int .i64 0, .bool false, .slice none 0 0] 40 (0, 0)) := (bx w 0 k.ofDrew).1

set_option maxHeartbeats 1000000 in
theorem gTake_on {w : World} {b : Nat} {d : Value} {D : List Int} {A : Nat} (h : Rg w b true d D (A : Int) 0) (hc : Cap d D) (hB : Byt D) (kind n : Int) (hT : isT kind = true) (hn : n ≤ 9223372036854775807) :
    Calls Try.prog 54 #[.pointer (some ⟨b, 0, none⟩), .int .i64 kind, .int .i64 n] w fun e w' => ∃ kd u A', e = .returned (.agg #[.int .i64 kd, .int .u64 (tk kind n 0 (D.drop A)).N, .int .i64 (tk kind n 0 (D.drop A)).I, .bool (tk kind n 0 (D.drop A)).F, u]) ∧
      Rd w' u (tk kind n 0 (D.drop A)).bs ∧ Rg w' b true d D ((A' : Nat) : Int) (tk kind n 0 (D.drop A)).err ∧ (tk kind n 0 (D.drop A)).xs = D.drop A' ∧ Kp (iS b) w w' := by
  have hA : A ≤ D.length := by have := h.a1; omega
  have T0 := fun w' (k : Kp Nu w w') => gtake_any (w := w') ⟨h.rd.keeps k (fun _ _ h => h), hc, hB, h.len, hA⟩ kind n hT hn
  generalize tk kind n 0 (D.drop A) = t at *
  obtain ⟨ad, cap, hu⟩ := h.rd.slice
  obtain ⟨L, hL⟩ : ∃ L, D.length = L := ⟨_, rfl⟩
  rw [hL] at hu
  have hlI : (L : Int) ≤ 16777216 := by have := h.len; omega
  have hAI : (A : Int) ≤ (L : Int) := by omega
  have hblt := h.lt
  have T : ∀ w' w'', Kp Nu w w' → w''= w' → Calls Try.prog 73 #[.slice ad L cap, .int .i64 (A : Int), .int .i64 kind, .int .i64 n] w'' fun e w2 => ∃ kd u ad2 L2 cap2 k, u = .slice ad2 L2 cap2 ∧ e = .returned (.tuple #[.agg #[.int .i64 kd, .int .u64 t.N, .int .i64 t.I, .bool t.F, .slice ad2 L2 cap2], .int .i64 ((k : Nat) : Int), .int .i64 t.err]) ∧
      Hid (Rd w2 u t.bs ∧ fresh w''.heap.size u ∧ Kp Nu w w2 ∧ Rg w2 b true (.slice ad L cap) D (A : Int) 0 ∧ A + k ≤ D.length ∧ t.xs = D.drop (A + k)) ∧ Kp Nu w'' w2 ∧ (w2.cell? ⟨b, 1, none⟩ = some (.slice ad L cap) ∧ w2.cell? ⟨b, 2, none⟩ = some (.int .i64 (A : Int)) ∧ w2.frozen? ⟨b, 2, none⟩ = false ∧ w2.frozen? ⟨b, 3, none⟩ = false) ∧ k ≤ L ∧
      (w2.frozen? ⟨w.heap.size, 0, none⟩ = false → True) := by
    rintro w' w'' k rfl
    rw [← hu]
    refine (T0 _ k).mono ?_
    rintro e w2 ⟨kd, u, k', rfl, h1, h2, h3, h4, h5⟩
    obtain ⟨ad2, cap2, e2⟩ := h1.slice
    have R2 := h.keeps (k.trans h3 (fun _ _ h => h)) (fun h => h) (fun _ _ h => h)
    obtain ⟨p0, p1, p2, p3⟩ := cell4 R2.blk
    exact ⟨kd, u, ad2, _, cap2, k', e2, by rw [e2], ⟨h1, h2, k.trans h3 (fun _ _ h => h), R2, h4, h5⟩, h3, ⟨p1, p2, free3 R2.blk 2, free3 R2.blk 3⟩, by omega, fun _ => trivial⟩
  have c := fun o => cell4 ((Below.heap_alloc w o b h.lt).trans h.blk)
  rw [hu] at c
  obtain ⟨q0, q1, q2, q3⟩ := c (.cells #[.int .i64 0, .int .u64 0, .int .i64 0, .bool false, .slice none 0 0] 40)
  have KW := Kp.refl Nu w
  have hne1 : w.heap.size + 1 ≠ b := by omega
  have hne2 : w.heap.size ≠ b := by omega
  have HD := hide hu
  have HDW : Hid (∀ m, w.heap.size ≤ m → D ≠ [] → at? (.slice ad L cap) ≠ some m) := by
    rintro m hm h0 e
    have := src_lt h.rd h0 (g := m) (by rw [hu]; exact e)
    omega
  have HL := hide hL
  clear T0 hc hB hT c hL
  go_enter Try.func54, Try.ntmps54
  go_wp2_with fail
  go_region_held (fun w' => w'.cell? ⟨b, 1, none⟩ = some (.slice ad L cap) ∧ w'.cell? ⟨b, 2, none⟩ = some (.int .i64 (A : Int))) (go_keep)
    (first
    | (go_at_call 73; refine Calls.mono (T _ _ ((KW.andAlloc _).andAlloc _).drew rfl) ?_; rintro e w2 ⟨kd, u, ad2, L2, cap2, k, hu2, rfl, hH, hk, ⟨p1, p2, p3, p4⟩, hkL, _⟩; have hbx := two_box hk; have u0 := free3 hbx 0; have u1 := free3 hbx 1; have u2 := free3 hbx 2; have u3 := free3 hbx 3; have u4 := free3 hbx 4; obtain ⟨t0, t1, t2, t3, t4⟩ := cell5 hbx; have HBX := hide hbx; have HRX := hide (bx w 0 hk.ofDrew).2.1; clear hbx hk)
    | (go_at_call 73; refine Calls.mono (T _ _ (KW.andAlloc _).drew rfl) ?_; rintro e w2 ⟨kd, u, ad2, L2, cap2, k, hu2, rfl, hH, hk, ⟨p1, p2, p3, p4⟩, hkL, _⟩; have HRX := hide (box1 hk.ofDrew).1; clear hk))
  · subst hu2
    have hH2 := hH.out
    have hR3 := (Below.heap_alloc w2 (.cells #[.int .i64 kd, .int .u64 t.N, .int .i64 t.I, .bool t.F, .slice ad2 L2 cap2] 40) _ (block_lt HRX.out)).trans HRX.out
    have hT3 := heap_alloc_new w2 (.cells #[.int .i64 kd, .int .u64 t.N, .int .i64 t.I, .bool t.F, .slice ad2 L2 cap2] 40)
    have k3 := Kp.alloc w2 (.cells #[.int .i64 kd, .int .u64 t.N, .int .i64 t.I, .bool t.F, .slice ad2 L2 cap2] 40) Nu
    have hG3 := hH2.2.2.2.1.keeps k3 (fun h => h) (fun _ _ h => h)
    have hRd3 := hH2.1.keeps k3 (fun _ _ h => h)
    have hK3 := hH2.2.2.1.trans k3 (fun _ _ h => h)
    have hlt2 := block_lt HRX.out
    have HTB : Hid (w2.heap.size ≠ b) := by show _ ≠ _; omega
    have HTR : Hid (w2.heap.size ≠ w.heap.size) := by show _ ≠ _; omega
    have hfr := hH2.2.1
    have HXS : Hid (t.xs = D.drop (A + k)) := hH2.2.2.2.2.2
    have HAK : Hid (A + k ≤ D.length) := hH2.2.2.2.2.1
    have HU1 : Hid (at? (.slice ad2 L2 cap2) ≠ some w.heap.size) := by
      rintro e
      rcases hfr with e2 | ⟨G, hG, e2⟩
      · rw [e2] at e; cases e
      · rw [e2] at e; cases e; simp at hG; omega
    have HU2 : Hid (at? (.slice ad2 L2 cap2) ≠ some b) := by
      rintro e
      rcases hfr with e2 | ⟨G, hG, e2⟩
      · rw [e2] at e; cases e
      · rw [e2] at e; cases e; simp at hG; omega
    clear hH2 hfr hlt2 k3 hH p1 p2 p3 p4 HRX
    clear ‹_ ∧ _›
    generalize w2.alloc (.cells #[.int .i64 kd, .int .u64 t.N, .int .i64 t.I, .bool t.F, .slice ad2 L2 cap2] 40) = w3 at *
    generalize w2.heap.size = tb at *
    obtain ⟨m0, m1, m2, m3⟩ := cell4 hG3.blk
    have v2 := free3 hG3.blk 2
    have v3 := free3 hG3.blk 3
    obtain ⟨b0, b1, b2, b3, b4⟩ := cell5 hT3
    obtain ⟨r0, r1, r2, r3, r4⟩ := cell5 hR3
    have g0 := free3 hR3 0
    have g1 := free3 hR3 1
    have g2 := free3 hR3 2
    have g3 := free3 hR3 3
    have g4 := free3 hR3 4
    have htbb : tb ≠ b := HTB.out
    have htbr : tb ≠ w.heap.size := HTR.out
    have hne3 : b ≠ w.heap.size := fun e => hne2 e.symm
    have htb2 : b ≠ tb := fun e => htbb e.symm
    have htr2 : w.heap.size ≠ tb := fun e => htbr e.symm
    have HG3 := hide hG3
    have hAk : (A : Int) + (k : Int) ≤ (L : Int) := by have := HAK.out; have := HL.out; omega
    clear hR3 hT3 hG3
    go_wp2
    refine bodyPost_ret (v := .agg #[.int .i64 kd, .int .u64 t.N, .int .i64 t.I, .bool t.F, .slice ad2 L2 cap2]) (by simp [results, Try.results54, go_sem, *]) rfl ⟨kd, _, A + k, rfl, ?_, ?_, HXS.out, ?_⟩
    · repeat (first | refine rd_set' ?_ _ _ (fun _ => HU1.out) | refine rd_set' ?_ _ _ (fun _ => HU2.out))
      exact hRd3
    · rw [HD.out, Int.natCast_add]
      repeat (refine Rg.other ?_ _ _ hne2 (HDW.out _ (Nat.le_refl _)))
      refine Rg.setErr (err := 0) ?_ _
      exact Rg.setAt HG3.out _ (by omega) (by have := HAK.out; omega)
    · repeat (first | refine Kp.andSetS ?_ _ _ (Nat.le_refl _) | refine Kp.andB ?_ _ _)
      exact hK3.ofNu
  · subst hu2
    have hH2 := hH.out
    have hfr := hH2.2.1
    have hu1' : at? (.slice ad2 L2 cap2) ≠ some (w.heap.size + 1) := by
      rintro e
      rcases hfr with e2 | ⟨G, hG, e2⟩
      · rw [e2] at e; cases e
      · rw [e2] at e; cases e; simp at hG; omega
    have s0 := set3 HBX.out 0 (.int .i64 kd)
    have s1 := set3 s0 1 (.int .u64 t.N)
    have s2 := set3 s1 2 (.int .i64 t.I)
    have s3 := set3 s2 3 (.bool t.F)
    have s4 := set3 s3 4 (.slice ad2 L2 cap2)
    have hT3 := (by simpa [Array.setIfInBounds] using s4 : (((((w2.setCell ⟨w.heap.size + 1, 0, none⟩ (.int .i64 kd)).setCell ⟨w.heap.size + 1, 1, none⟩ (.int .u64 t.N)).setCell ⟨w.heap.size + 1, 2, none⟩ (.int .i64 t.I)).setCell ⟨w.heap.size + 1, 3, none⟩ (.bool t.F)).setCell ⟨w.heap.size + 1, 4, none⟩ (.slice ad2 L2 cap2)).heap[w.heap.size + 1]? = some (.cells #[.int .i64 kd, .int .u64 t.N, .int .i64 t.I, .bool t.F, .slice ad2 L2 cap2] 40 (0, 0)))
    have hR3 := set_far (set_far (set_far (set_far (set_far HRX.out ⟨w.heap.size + 1, 0, none⟩ (.int .i64 kd) (by simp)) ⟨w.heap.size + 1, 1, none⟩ (.int .u64 t.N) (by simp)) ⟨w.heap.size + 1, 2, none⟩ (.int .i64 t.I) (by simp)) ⟨w.heap.size + 1, 3, none⟩ (.bool t.F) (by simp)) ⟨w.heap.size + 1, 4, none⟩ (.slice ad2 L2 cap2) (by simp)
    have hq := HDW.out (w.heap.size + 1) (by omega)
    have hG3 := ((((hH2.2.2.2.1.other ⟨w.heap.size + 1, 0, none⟩ (.int .i64 kd) hne1 hq).other ⟨w.heap.size + 1, 1, none⟩ (.int .u64 t.N) hne1 hq).other ⟨w.heap.size + 1, 2, none⟩ (.int .i64 t.I) hne1 hq).other ⟨w.heap.size + 1, 3, none⟩ (.bool t.F) hne1 hq).other ⟨w.heap.size + 1, 4, none⟩ (.slice ad2 L2 cap2) hne1 hq
    have hRd3 := ((((hH2.1.andSet ⟨w.heap.size + 1, 0, none⟩ (.int .i64 kd) hu1').andSet ⟨w.heap.size + 1, 1, none⟩ (.int .u64 t.N) hu1').andSet ⟨w.heap.size + 1, 2, none⟩ (.int .i64 t.I) hu1').andSet ⟨w.heap.size + 1, 3, none⟩ (.bool t.F) hu1').andSet ⟨w.heap.size + 1, 4, none⟩ (.slice ad2 L2 cap2) hu1'
    have hK3 := ((((hH2.2.2.1.andSetS ⟨w.heap.size + 1, 0, none⟩ (.int .i64 kd) (by simp)).andSetS ⟨w.heap.size + 1, 1, none⟩ (.int .u64 t.N) (by simp)).andSetS ⟨w.heap.size + 1, 2, none⟩ (.int .i64 t.I) (by simp)).andSetS ⟨w.heap.size + 1, 3, none⟩ (.bool t.F) (by simp)).andSetS ⟨w.heap.size + 1, 4, none⟩ (.slice ad2 L2 cap2) (by simp)
    have HTB : Hid (w.heap.size + 1 ≠ b) := hne1
    have HTR : Hid (w.heap.size + 1 ≠ w.heap.size) := by show _ ≠ _; omega
    have HXS : Hid (t.xs = D.drop (A + k)) := hH2.2.2.2.2.2
    have HAK : Hid (A + k ≤ D.length) := hH2.2.2.2.2.1
    have HU1 : Hid (at? (.slice ad2 L2 cap2) ≠ some w.heap.size) := by
      rintro e
      rcases hfr with e2 | ⟨G, hG, e2⟩
      · rw [e2] at e; cases e
      · rw [e2] at e; cases e; simp at hG; omega
    have HU2 : Hid (at? (.slice ad2 L2 cap2) ≠ some b) := by
      rintro e
      rcases hfr with e2 | ⟨G, hG, e2⟩
      · rw [e2] at e; cases e
      · rw [e2] at e; cases e; simp at hG; omega
    clear hH2 hfr hH p1 p2 p3 p4 HRX HBX s0 s1 s2 s3 s4 u0 u1 u2 u3 u4 t0 t1 t2 t3 t4 hu1' hq
    clear ‹_ ∧ _›
    generalize ((((w2.setCell ⟨w.heap.size + 1, 0, none⟩ (.int .i64 kd)).setCell ⟨w.heap.size + 1, 1, none⟩ (.int .u64 t.N)).setCell ⟨w.heap.size + 1, 2, none⟩ (.int .i64 t.I)).setCell ⟨w.heap.size + 1, 3, none⟩ (.bool t.F)).setCell ⟨w.heap.size + 1, 4, none⟩ (.slice ad2 L2 cap2) = w3 at *
    clear hne1
    generalize w.heap.size + 1 = tb at *
    obtain ⟨m0, m1, m2, m3⟩ := cell4 hG3.blk
    have v2 := free3 hG3.blk 2
    have v3 := free3 hG3.blk 3
    obtain ⟨b0, b1, b2, b3, b4⟩ := cell5 hT3
    obtain ⟨r0, r1, r2, r3, r4⟩ := cell5 hR3
    have g0 := free3 hR3 0
    have g1 := free3 hR3 1
    have g2 := free3 hR3 2
    have g3 := free3 hR3 3
    have g4 := free3 hR3 4
    have htbb : tb ≠ b := HTB.out
    have htbr : tb ≠ w.heap.size := HTR.out
    have hne3 : b ≠ w.heap.size := fun e => hne2 e.symm
    have htb2 : b ≠ tb := fun e => htbb e.symm
    have htr2 : w.heap.size ≠ tb := fun e => htbr e.symm
    have HG3 := hide hG3
    have hAk : (A : Int) + (k : Int) ≤ (L : Int) := by have := HAK.out; have := HL.out; omega
    clear hR3 hT3 hG3
    go_wp2
    refine bodyPost_ret (v := .agg #[.int .i64 kd, .int .u64 t.N, .int .i64 t.I, .bool t.F, .slice ad2 L2 cap2]) (by simp [results, Try.results54, go_sem, *]) rfl ⟨kd, _, A + k, rfl, ?_, ?_, HXS.out, ?_⟩
    · repeat (first | refine rd_set' ?_ _ _ (fun _ => HU1.out) | refine rd_set' ?_ _ _ (fun _ => HU2.out))
      exact hRd3
    · rw [HD.out, Int.natCast_add]
      repeat (refine Rg.other ?_ _ _ hne2 (HDW.out _ (Nat.le_refl _)))
      refine Rg.setErr (err := 0) ?_ _
      exact Rg.setAt HG3.out _ (by omega) (by have := HAK.out; omega)
    · repeat (first | refine Kp.andSetS ?_ _ _ (Nat.le_refl _) | refine Kp.andB ?_ _ _)
      exact hK3.ofNu
end Go.Proofs.Ytgaehpdlljlliaa.Cd
