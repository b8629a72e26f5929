import Derived.Test.YtbhdhoeaogbfbaaEnE
import Derived.Test.YtbhdhoeaogbfbaaEnG
namespace Go.Proofs.Ytbhdhoeaogbfbaa.Xo
open Go.RowKit
set_option linter.unusedVariables false
section
variable {B eb pb : Nat} {w w' : World} {me qn wn : Int} {ps : List Pr}
/-- what State tells of a peer whose lists are empty -/
def Tl (p t : Pr) : Prop := t.sent = p.sent ∧ t.acked = p.acked ∧ t.mask = p.mask ∧ t.dlv = p.dlv ∧ (∃ ad cap, t.q = .slice ad 0 cap) ∧ ∃ ad cap, t.e = .slice ad 0 cap
/-- behind some rounds of State -/
structure Sd (w0 wr : World) (tb : Nat) (ps L : List Pr) (k : Nat) : Prop where
  kp : Kp Nu w0 wr
  ht : w0.heap.size ≤ tb
  row : Row wr tb 66 (L ++ List.replicate (ps.length - k) Pr0)
  len : L.length = k
  tl : ∀ (i : Nat) (p t : Pr), ps[i]? = some p → L[i]? = some t → Tl p t

theorem Sd.step {w0 wr w2 : World} {tb : Nat} {L : List Pr} {k : Nat} (h : Sd w0 wr tb ps L k) (hlt : k < ps.length) {p t : Pr} (hp : ps[k]? = some p) (ht : Tl p t) (k2 : Kp (fun i => i = tb) wr w2)
    (hr : Row w2 tb 66 ((L ++ List.replicate (ps.length - k) Pr0).set k t)) : Sd w0 w2 tb ps (L ++ [t]) (k + 1) := by
  have hl := h.len
  refine ⟨h.kp.trans k2 (fun i hi e => by have e : i = tb := e; have := h.ht; omega), h.ht, ?_, by simp [hl], ?_⟩
  · have : (L ++ List.replicate (ps.length - k) Pr0).set k t = (L ++ [t]) ++ List.replicate (ps.length - (k + 1)) Pr0 := by
      rw [List.set_append_right _ _ (by omega), show k - L.length = 0 by omega, show ps.length - k = (ps.length - (k + 1)) + 1 by omega, List.replicate_succ, List.set_cons_zero]
      simp
    rw [← this]; exact hr
  · intro i p' t' hi hi'
    rcases Nat.lt_or_ge i L.length with hl' | hl'
    · rw [List.getElem?_append_left hl'] at hi'
      exact h.tl i p' t' hi hi'
    · have hi2 : i = L.length := by
        have := (List.getElem?_eq_some_iff.1 hi').1
        simp at this; omega
      subst hi2
      rw [List.getElem?_append_right (Nat.le_refl _)] at hi'
      simp at hi'
      subst hi'
      rw [hl, hp] at hi
      cases hi
      exact ht

theorem info24 : (Try.prog.info? 24).map (·.size) = some 1 := by kernel_rfl
set_option maxHeartbeats 2000000 in
theorem state_any (h : En B w eb pb me qn wn ps) (he : ∀ (i : Nat) (p : Pr), ps[i]? = some p → p.qs = []) : Calls Try.prog 20 #[.pointer (some ⟨eb, 0, none⟩)] w fun e w' => ∃ tb ts, e = .returned (.agg #[.slice (some ⟨tb, 0, none⟩) ps.length ps.length]) ∧ Row w' tb 66 ts ∧ ts.length = ps.length ∧ (∀ (i : Nat) (p t : Pr), ps[i]? = some p → ts[i]? = some t → Tl p t) ∧ Kp Nu w w' := by
  have MA := fun W (k : Kp Nu w W) => made_any (h.nu k)
  have hq : ∀ (i : Nat) (p : Pr), ps[i]? = some p → ∃ ad cap, p.q = .slice ad 0 cap := fun i p hi => by
    obtain ⟨ad, cap, e⟩ := (h.pw i p hi).slice
    rw [he i p hi] at e
    exact ⟨ad, cap, e⟩
  have MK := fun W => mk_told W ps.length h.n1
  have c3 := h.c3
  have HH := hide h
  have H16 := hide h.n1
  clear h
  obtain ⟨n, hn⟩ : ∃ n, ps.length = n := ⟨_, rfl⟩
  rw [hn] at MK c3
  rw [hn]
  have HN := hide hn
  have b3 : ∀ x, (w.alloc x).cell? ⟨eb, 3, none⟩ = some (.slice (some ⟨pb, 0, none⟩) n n) := fun x => (World.cell?_of_block (Below.heap_alloc w x _ (World.block_lt_of_cell? w _ c3))).trans c3
  clear hn
  go_enter Try.func20, Try.ntmps20
  go_wp2_with (go_at_call 50; refine (MA _ ((Kp.refl _ w).andAlloc _)).mono ?_; rintro e w1 ⟨rfl, hw1⟩; obtain rfl := hw1.symm)
  go_loopw [17] (fun i wr => ∃ (k : Nat) (L : List Pr), k ≤ n ∧ i = .int .i64 (k : Int) ∧ Hid (Sd (w.alloc (.cells #[.slice none 0 0] 24)) wr (w.heap.size + 1) ps L k)) (fun i _ => n - (intOf i).toNat)
  case atStart =>
    have hnn := HN.out
    refine ⟨0, [], by omega, rfl, ⟨(Kp.refl _ _).andAlloc _, by simp, ?_, rfl, fun i p t _ h => by simp at h⟩⟩
    have := heap_alloc_new (w.alloc (.cells #[.slice none 0 0] 24)) (.cells (flat (List.replicate n Pr0)).toArray 66)
    unfold Row
    simpa [hnn] using this
  case round =>
    obtain ⟨k, L, hkn, rfl, HI⟩ := hrel
    by_cases hlt : k < n
    · have hk2 : k < ps.length := by rw [HN.out]; exact hlt
      obtain ⟨p, hp⟩ : ∃ p, ps[k]? = some p := ⟨ps[k], List.getElem?_eq_getElem hk2⟩
      have hltI : (k : Int) < (n : Int) := by omega
      have hk0 : (0 : Int) ≤ (k : Int) := by omega
      have kw := ((Kp.refl Nu w).andAlloc (.cells #[.slice none 0 0] 24)).andNu HI.out.kp
      have hEr := HH.out.nu kw
      have hlen := HI.out.len
      have hrow := HI.out.row
      have hz : (L ++ List.replicate (ps.length - k) Pr0)[k]? = some Pr0 := by
        rw [List.getElem?_append_right (by omega), List.getElem?_replicate, if_pos (by omega)]
      have net : eb ≠ w.heap.size + 1 := hrow.ne hEr.blk (by decide)
      have npt : pb ≠ w.heap.size + 1 := hrow.ne hEr.row (by decide)
      have HS : ∀ W, Kp (fun i => i = w.heap.size + 1) wr W → W.cell? ⟨eb, 3, none⟩ = some (.slice (some ⟨pb, 0, none⟩) n n) := fun W kW => by
        have := hEr.c3
        rw [HN.out] at this
        exact (World.cell?_of_block (kW.block _ (blk_lt hEr.blk) (fun e => net e))).trans this
      have TO : ∀ W, Kp Nu wr W → Calls Try.prog 51 #[.pointer (some ⟨pb, k * 6, none⟩), .pointer (some ⟨w.heap.size + 1, k * 6, none⟩)] W fun e w' => e = .returned (.tuple #[]) ∧ Kp (fun i => i = w.heap.size + 1) wr w' ∧ Hid (∃ g, Row w' (w.heap.size + 1) 66 ((L ++ List.replicate (ps.length - k) Pr0).set k ⟨p.sent, p.acked, .slice (some ⟨g, 0, none⟩) 0 0, [], p.mask, 0, .slice none 0 0⟩)) := fun W kW =>
        (tellOut (w.heap.size + 1) _ (hrow.keep (kW.block _ (blk_lt hrow) (fun h => h))) (hEr.nu kW).row k p Pr0 hp hz (hq k p hp)).mono (by
          rintro e w' ⟨rfl, g, hr, kp⟩
          exact ⟨rfl, (kW.mono (fun _ _ e => e.elim)).trans kp (fun _ _ e => e), g, hr⟩)
      have TI : ∀ (w5 : World) (g : Nat), Kp (fun i => i = w.heap.size + 1) wr w5 → Row w5 (w.heap.size + 1) 66 ((L ++ List.replicate (ps.length - k) Pr0).set k ⟨p.sent, p.acked, .slice (some ⟨g, 0, none⟩) 0 0, [], p.mask, 0, .slice none 0 0⟩) → ∀ W, Kp Nu w5 W → Calls Try.prog 52 #[.pointer (some ⟨pb, k * 6 + 4, none⟩), .pointer (some ⟨w.heap.size + 1, k * 6, none⟩)] W fun e w' => e = .returned (.tuple #[]) ∧ Kp (fun i => i = w.heap.size + 1) wr w' ∧ Hid (∃ g', Row w' (w.heap.size + 1) 66 ((L ++ List.replicate (ps.length - k) Pr0).set k ⟨p.sent, p.acked, .slice (some ⟨g, 0, none⟩) 0 0, [], p.mask, p.dlv, .slice (some ⟨g', 0, none⟩) 0 0⟩)) := fun w5 g k5 hr5 W kW => by
        have hpb5 : Row w5 pb 123 ps := hEr.row.keep (k5.block _ (blk_lt hEr.row) (fun e => npt e))
        refine (tellIn (w.heap.size + 1) _ (hr5.keep (kW.block _ (blk_lt hr5) (fun h => h))) (hpb5.keep (kW.block _ (blk_lt hpb5) (fun h => h))) k p _ hp (set_self hz _) ((hEr.pw k p hp).e0)).mono ?_
        rintro e w' ⟨rfl, g', hr, kp⟩
        rw [List.set_set] at hr
        exact ⟨rfl, k5.trans ((kW.mono (fun _ _ e => e.elim)).trans kp (fun _ _ e => e)) (fun _ _ e => e), g', hr⟩
      have HZ := hide hz
      have hwk : Hid (wrap64 ((k : Int) + 1) = ((k + 1 : Nat) : Int)) := by have := H16.out; exact wrap_small (by omega) (by omega)
      clear hEr hrow hz kw net npt hlen
      go_wp2_with fail
      go_region_held3 (fun W => W.cell? ⟨eb, 3, none⟩ = some (.slice (some ⟨pb, 0, none⟩) n n)) (first | (refine HS _ ?_; repeat (first | assumption | exact Kp.refl _ _ | apply Kp.drew))) (first | (go_at_call 51; refine (TO _ ?_).mono ?_; (repeat (first | assumption | exact Kp.refl _ _ | apply Kp.drew)); rintro e w5 ⟨rfl, hk5, H5⟩))
      obtain ⟨g, hr5⟩ := H5.out
      have TI5 := TI w5 g hk5 hr5
      have HS5 : ∀ W, Kp Nu w5 W → W.cell? ⟨eb, 3, none⟩ = some (.slice (some ⟨pb, 0, none⟩) n n) := fun W kW => HS W (hk5.trans kW (fun _ _ e => e.elim))
      clear TI TO hr5 H5
      go_wp2_with fail
      go_region_held3 (fun W => W.cell? ⟨eb, 3, none⟩ = some (.slice (some ⟨pb, 0, none⟩) n n)) (first | (refine HS5 _ ?_; (repeat (first | assumption | exact Kp.refl _ _ | apply Kp.drew)); done) | (refine HS _ ?_; (repeat (first | assumption | exact Kp.refl _ _ | apply Kp.drew)); done)) (first | (go_at_call 52; refine (TI5 _ ?_).mono ?_; (repeat (first | assumption | exact Kp.refl _ _ | apply Kp.drew)); rintro e w6 ⟨rfl, hk6, H6⟩))
      obtain ⟨g6, hr6⟩ := H6.out
      have HD := hide (Sd.step HI.out (by rw [HN.out]; exact hlt) hp (t := ⟨p.sent, p.acked, .slice (some ⟨g, 0, none⟩) 0 0, [], p.mask, p.dlv, .slice (some ⟨g6, 0, none⟩) 0 0⟩) ⟨rfl, rfl, rfl, rfl, ⟨_, _, rfl⟩, _, _, rfl⟩ hk6 hr6)
      clear hr6 H6 TI5 HS5 HS
      go_wp2
      exact ⟨⟨k + 1, _, hlt, by rw [hwk.out], HD⟩, lt_m _ hwk.out hlt⟩
    · obtain rfl : k = n := by omega
      clear hlt
      have HB : Hid (wr.heap[w.heap.size]? = some (.cells #[.slice none 0 0] 24 (0, 0))) := new_at w _ HI.out.kp
      have x0 := cellAt HB.out 0 (by rfl)
      have f0 := free3 HB.out 0
      go_wp2
      have hI := HI.out
      have hb2 := set3 HB.out 0 (.slice (some ⟨w.heap.size + 1, 0, none⟩) k k)
      have hne : w.heap.size ≠ w.heap.size + 1 := by omega
      have kk : Kp (fun i => i = w.heap.size) wr (wr.setCell ⟨w.heap.size, 0, none⟩ (.slice (some ⟨w.heap.size + 1, 0, none⟩) k k)) := (Kp.refl _ _).put
      have hrow : Row wr (w.heap.size + 1) 66 L := by
        have := hI.row
        rwa [HN.out, Nat.sub_self, List.replicate_zero, List.append_nil] at this
      refine bodyPost_ret (results_cell_row rfl _ _ w.heap.size 24 _ _ _ rfl hb2 Try.underlying24 rfl info24) rfl ?_
      refine ⟨w.heap.size + 1, L, rfl, hrow.keep (kk.block _ (blk_lt hrow) (fun e => hne (Eq.symm e))), hI.len, hI.tl, ?_⟩
      exact (((Kp.refl Nu w).andAlloc _).andNu hI.kp).trans kk (fun i hi e => by have e : i = w.heap.size := e; omega)
end
end Go.Proofs.Ytbhdhoeaogbfbaa.Xo
