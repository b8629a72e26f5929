import Derived.Test.YtbifmcadllilhaaPdC
namespace Go.Proofs.Ytbifmcadllilhaa.Rg
open Go.RowKit Go.Shelf Go.Sort
open Go.Proofs.Ytbifmcadllilhaa.It
set_option linter.unusedVariables false
theorem Sgs.rz {w : World} {u : Value} {M : List Sg} (h : Sgs w u M) : Rz w u M := by
  rcases h with ⟨⟨ad, cap, rfl⟩, rfl⟩ | ⟨b, off, cap, rfl, h3⟩
  · exact .inl ⟨rfl, ad, cap, rfl⟩
  · exact .inr ⟨b, off, cap, rfl, fun i s hs => ⟨(h3 i s hs).c0, (h3 i s hs).c1, (h3 i s hs).c2⟩⟩
theorem Sgs.sgb {w : World} {u : Value} {M : List Sg} (h : Sgs w u M) : ∀ s ∈ M, SgB s := fun s hs => by
  obtain ⟨i, hi⟩ := List.getElem?_of_mem hs
  rcases h with ⟨_, rfl⟩ | ⟨b, off, cap, _, h3⟩
  · cases hs
  · have f := (h3 i s hi).fit
    exact ⟨f.1, f.2.1, f.2.2.1, f.2.2.2.1, f.2.2.2.2.1, f.2.2.2.2.2⟩
theorem Sgs.nu {w w' : World} {u : Value} {M : List Sg} (h : Sgs w u M) (k : Kp Nu w w') : Sgs w' u M := by
  rcases h with h | ⟨b, off, cp, h0, h3⟩
  · exact .inl h
  · exact .inr ⟨b, off, cp, h0, fun i s hs => ⟨cell_nu (h3 i s hs).c0 k, cell_nu (h3 i s hs).c1 k, cell_nu (h3 i s hs).c2 k, (h3 i s hs).fit⟩⟩
/-- the segments make a table -/
def Ldd (M : List Sg) : Prop := Lok M M.length ∧ endF (lays [] M) = true ∧ ((lays [] M).length : Int) ≤ 8192
/-- a layout that may be -/
def LayB (n : Int) (M : List Sg) (ks : List Int) : Prop := Ldd M ∧ (∀ s ∈ lays [] M, s.h < n) ∧ Ris ks
/-- what the document's layout answers -/
def LyR (w w' : World) (n : Int) (M : List Sg) (ks : List Int) (e : Ending) : Prop := ∃ L v b, e = .returned (.tuple #[.agg #[.int .i64 L, v], .bool b]) ∧ (∃ ad m cp, v = .slice ad m cp) ∧ (b = true ↔ LayB n M ks) ∧ (b = true → w'.ownsRow w.heap.size 82 3 v (lays [] M).length (cells (lays [] M))) ∧ Kp Nu w w'
theorem lrt_iff {w w' : World} {M : List Sg} {p : Value} {c : Int} (h : Lrt w w' 8192 M p c) : c = 0 ↔ Ldd M := by
  rcases h with ⟨h0, _⟩ | ⟨_, i, h1⟩
  · exact absurd (by omega) h0
  · rcases h1 with ⟨_, k, s, g1, g2, g3, g4, _⟩ | ⟨_, g1, _, g2⟩ | ⟨g0, _, g1, g2, g3, _⟩
    · exact ⟨fun e => absurd e g4, fun e => (lok_no e.1 (List.getElem?_eq_some_iff.1 g2).1 g2 (by rw [g3]; exact g4)).elim⟩
    · refine ⟨fun e => by omega, fun e => ?_⟩
      rcases g2 with ⟨_, g2⟩ | ⟨_, _, g2⟩
      · rw [e.2.1] at g2; cases g2
      · have := e.2.2; omega
    · exact ⟨fun _ => ⟨g1, g2, g3⟩, fun _ => g0⟩
theorem rrs_iff {w w' : World} {M : List Sg} {L : Int} {v : Value} {f : Int} (h : Rrs w w' 8192 M L v f) : f = 0 ↔ Ldd M := by
  rcases h with ⟨h0, _⟩ | ⟨_, p, f', h1, h2, _⟩
  · exact absurd (by omega) h0
  · subst h2
    unfold refC
    rcases h1 with ⟨k, s, g1, g2, g3, g4, _⟩ | ⟨g1, g2, g3, _⟩ | ⟨g0, g1, g2, _⟩
    · rw [if_pos g4]
      exact ⟨fun e => absurd e g4, fun e => (lok_no e.1 (List.getElem?_eq_some_iff.1 g2).1 g2 (by rw [g3]; exact g4)).elim⟩
    · rw [if_pos (by omega)]
      exact ⟨fun e => by omega, fun e => by rw [e.2.1] at g3; cases g3⟩
    · rw [if_neg (by omega)]
      refine ⟨fun e => ⟨g1, g2, ?_⟩, fun e => by rw [if_neg (by have := e.2.2; omega)]⟩
      split at e
      · omega
      · omega
set_option maxRecDepth 100000 in
set_option maxHeartbeats 2000000 in
theorem layout44 (w : World) (n : Int) (u k : Value) (M : List Sg) (ks : List Int) (hM : Sgs w u M) (hlen : (M.length : Int) ≤ 5864062014634) (hk : Us w k ks) (hkl : ks.length ≤ 140737488351232) :
    Calls Try.prog 44 #[.int .i64 n, u, k] w fun e w' => LyR w w' n M ks e := by
  have mixed : Try.prog.follows .mixedOrders = true := by kernel_rfl
  have K0 := Kp.alloc w (.cells #[.int .i64 0, .slice none 0 0] 76) Nu
  have RL := refLoad_any _ u M (hM.nu K0) hlen 8192
  obtain ⟨ad, cap, hu⟩ := hM.slice
  obtain ⟨a1, c1, rfl, _, _⟩ := id hk
  obtain ⟨N, eN⟩ : ∃ N, ks.length = N := ⟨_, rfl⟩
  have HU := hide (And.intro hM (And.intro hk eN))
  rw [eN] at hkl ⊢
  have hNI : (N : Int) ≤ 140737488351232 := by omega
  generalize M.length = NM at hu
  subst hu
  have hb0 := heap_alloc_new w (.cells #[.int .i64 0, .slice none 0 0] 76)
  have HB := hide (And.intro hb0 K0)
  clear hM hk eN hkl hb0 K0 hlen
  go_enter Try.func44, Try.ntmps44
  go_wp2_with fail
  refine RL.mono ?_; rintro e w2 ⟨L, v, f, rfl, hR, hk2⟩
  have HR := hide (And.intro hR hk2)
  have hvs : ∃ va vl vc, v = .slice va vl vc := by
    rcases hR with ⟨_, _, _, e⟩ | ⟨_, _, _, _, _, ⟨_, _, e⟩ | ⟨_, _, e⟩⟩
    · exact ⟨_, _, _, e⟩
    · exact ⟨_, _, _, e⟩
    · obtain ⟨q1, q2, q3⟩ := own_slice e
      exact ⟨_, _, _, q3⟩
  obtain ⟨va, vl, vc, rfl⟩ := hvs
  clear RL hR hk2
  obtain ⟨X, eX⟩ : ∃ X, Obj.cells #[.int .i64 L, .slice va vl vc] 76 = X := ⟨_, rfl⟩
  have HBX : Hid (∀ wr, Kp Nu (w2.alloc X) wr → wr.heap[w.heap.size]? = some (.cells #[.int .i64 0, .slice none 0 0] 76 (0, 0)) ∧ wr.heap[w2.heap.size]? = some (.cells #[.int .i64 L, .slice va vl vc] 76 (0, 0))) := hide (fun wr hw => ⟨box2 ((Below.heap_alloc w2 X _ (blk_lt (box2 HB.out.1 HR.out.2))).trans (box2 HB.out.1 HR.out.2)) hw, box2 (by rw [← eX]; exact heap_alloc_new w2 _) hw⟩)
  have HFIN : Hid (∀ wr, Kp Nu (w2.alloc X) wr → ((wr.setCell ⟨w.heap.size, 0, none⟩ (.int .i64 L)).setCell ⟨w.heap.size, 1, none⟩ (.slice va vl vc)).heap[w.heap.size]? = some (.cells #[.int .i64 L, .slice va vl vc] 76 (0, 0)) ∧ Kp Nu w ((wr.setCell ⟨w.heap.size, 0, none⟩ (.int .i64 L)).setCell ⟨w.heap.size, 1, none⟩ (.slice va vl vc)) ∧ (Ldd M → ((wr.setCell ⟨w.heap.size, 0, none⟩ (.int .i64 L)).setCell ⟨w.heap.size, 1, none⟩ (.slice va vl vc)).ownsRow w.heap.size 82 3 (.slice va vl vc) (lays [] M).length (cells (lays [] M)))) := hide (fun wr hw => by
    have kk := (HR.out.2.andAlloc X).andNu hw
    refine ⟨set3 (set3 (HBX.out wr hw).1 0 (.int .i64 L)) 1 (.slice va vl vc), ((HB.out.2.andNu kk).andSet _ _ (.inl (Nat.le_refl _))).andSet _ _ (.inl (Nat.le_refl _)), fun hd => ?_⟩
    have hf := (rrs_iff HR.out.1).2 hd
    rcases HR.out.1 with ⟨h0, _⟩ | ⟨_, p, f', _, _, ⟨h3, _⟩ | ⟨_, _, ho⟩⟩
    · exact absurd (by omega) h0
    · exact absurd hf h3
    · have ho2 := own_keep ho (fun g hg => ((Kp.alloc w2 X Nu).andNu hw).block g (own_lt ho hg) (fun h => h))
      have k2 : Kp (fun k => k = w.heap.size) wr ((wr.setCell ⟨w.heap.size, 0, none⟩ (.int .i64 L)).setCell ⟨w.heap.size, 1, none⟩ (.slice va vl vc)) := ((Kp.setCell wr ⟨w.heap.size, 0, none⟩ _).trans (Kp.setCell _ ⟨w.heap.size, 1, none⟩ _) (fun _ _ h => h))
      refine own_base (base := (w.alloc (Obj.cells #[Value.int IntKind.i64 0, Value.slice none 0 0] 76)).heap.size) ?_ (by simp)
      exact own_keep ho2 (fun g hg => k2.block g (own_lt ho2 hg) (fun e => by have e2 : g = w.heap.size := e; have := Pn.own_ge ho2 hg; simp at this; omega)))
  have y3 := HBX.out _ (Kp.refl Nu _)
  obtain ⟨y0, y1⟩ := cell2' y3.1
  obtain ⟨y5, y6⟩ := cell2' y3.2
  have g0 := free3 y3.1 0
  have g1 := free3 y3.1 1
  clear y3
  by_cases hf : f = 0
  · subst hf
    have hd := (rrs_iff HR.out.1).1 rfl
    have ho : w2.ownsRow (w.alloc (Obj.cells #[Value.int IntKind.i64 0, Value.slice none 0 0] 76)).heap.size 82 3 (.slice va vl vc) (lays [] M).length (cells (lays [] M)) := by
      rcases HR.out.1 with ⟨h0, _⟩ | ⟨_, p, f', _, _, ⟨h3, _⟩ | ⟨_, _, ho⟩⟩
      · exact absurd (by omega) h0
      · exact absurd rfl h3
      · exact ho
    obtain ⟨T, eT⟩ : ∃ T, lays [] M = T := ⟨_, rfl⟩
    rw [eT] at ho
    have hvl : vl = T.length := by
      obtain ⟨q1, q2, q3⟩ := own_slice ho
      simp only [Value.slice.injEq] at q3
      exact q3.2.1
    have hTl : (vl : Int) ≤ 8192 := by rw [hvl, ← eT]; exact hd.2.2
    have HTB : Hid (Tab T) := hide (by rw [← eT]; exact (lok_good hd.1 hd.2.1 HU.out.1.sgb).tab)
    have HT := hide (And.intro ho (And.intro hvl (And.intro eT hd)))
    clear ho hvl hd
    go_wp2_with fail
    clear y0 y1 y5 y6 g0 g1
    go_loopw [10] (fun iv wr => ∃ i : Nat, iv = .int .i64 (i : Int) ∧ i ≤ vl ∧ Hid ((∀ (j : Nat) s, j < i → T[j]? = some s → s.h < n) ∧ Kp Nu (w2.alloc X) wr)) (fun iv _ => vl - (intOf iv).toNat)
    case atStart => exact ⟨0, rfl, Nat.zero_le _, hide ⟨fun j s h => by omega, Kp.refl _ _⟩⟩
    case round =>
      obtain ⟨i, rfl, hi, hI⟩ := hrel
      have hi0 : (0 : Int) ≤ (i : Int) := by omega
      obtain ⟨bx0, bx1⟩ := HBX.out _ hI.out.2
      obtain ⟨y0, y1⟩ := cell2' bx0
      obtain ⟨y5, y6⟩ := cell2' bx1
      have g0 := free3 bx0 0
      have g1 := free3 bx0 1
      clear bx0 bx1
      by_cases hlt : i < vl
      · have hltI : (i : Int) < (vl : Int) := by omega
        obtain ⟨s, hs⟩ : ∃ s, T[i]? = some s := ⟨_, List.getElem?_eq_getElem (by rw [← HT.out.2.1]; exact hlt)⟩
        obtain ⟨r, cap, e, x0, x1, x2⟩ := row_at HT.out.1 hs
        simp only [Value.slice.injEq] at e
        obtain ⟨rfl, e1, e2⟩ := e
        clear e1 e2
        have kk := (Kp.alloc w2 X Nu).andNu hI.out.2
        replace x2 := cell_nu x2 kk
        have eti : (i : Int).toNat = i := by omega
        obtain ⟨h, eh⟩ : ∃ h, s.h = h := ⟨_, rfl⟩
        rw [eh] at x2
        have HS := hide (And.intro hs eh)
        have hb := HTB.out.hs s (List.mem_of_getElem? hs)
        rw [eh] at hb
        have hb1 := hb.1
        have hb2 := hb.2
        have ec : IntKind.i64.wrap h = h := by rw [IntKind.wrap_i64]; omega
        clear hs x0 x1 kk eh hb
        by_cases hge : h ≥ n
        · have hgd : decide (h ≥ n) = true := by simpa using hge
          have HG := hide hge
          clear hge
          go_wp2
          obtain ⟨z0, z1, z2⟩ := HFIN.out _ hI.out.2
          obtain ⟨q0, q1⟩ := cell2' z0
          refine bodyPost_ret (v := .tuple #[.agg #[.int .i64 L, .slice (some ⟨r, 0, none⟩) vl vc], .bool false]) (by simp [results, Try.results44, go_sem, q0, q1]) rfl ⟨L, _, false, rfl, ⟨_, _, _, rfl⟩, ?_, fun h => (by cases h), z1⟩
          simp
          intro hL
          have h1 := hL.2.1 s (by rw [HT.out.2.2.1]; exact List.mem_of_getElem? HS.out.1)
          have h2 := HS.out.2
          have h3 := HG.out
          omega
        · have hgd : decide (h ≥ n) = false := by simpa using hge
          have HG := hide hge
          clear hge
          go_wp2
          refine ⟨⟨i + 1, by go_num, by omega, hide ⟨fun j s' hj hs' => ?_, hI.out.2⟩⟩, by simp [intOf]; omega⟩
          rcases Nat.lt_or_ge j i with hl | hl
          · exact hI.out.1 j s' hl hs'
          · obtain rfl : j = i := by omega
            have e1 := HS.out.1
            rw [hs'] at e1
            cases e1
            have h2 := HS.out.2
            have h3 := HG.out
            omega
      · have hge : ¬ (i : Int) < (vl : Int) := by omega
        have HH : Hid (∀ s ∈ T, s.h < n) := hide (fun s hs => by
          obtain ⟨j, hj⟩ := List.getElem?_of_mem hs
          have := (List.getElem?_eq_some_iff.1 hj).1
          rw [← HT.out.2.1] at this
          exact hI.out.1 j s (by omega) hj)
        obtain ⟨wl, rfl⟩ : ∃ wl : World, wl = wr := ⟨_, rfl⟩
        go_wp2_with fail
        clear y0 y1 y5 y6 g0 g1
        go_loopw [11] (fun iv wr => ∃ i : Nat, iv = .int .i64 (i : Int) ∧ 1 ≤ i ∧ (i ≤ N ∨ i = 1) ∧ Hid ((∀ (j : Nat) x y, j + 1 < i → ks[j]? = some x → ks[j + 1]? = some y → x < y) ∧ Kp Nu wl wr)) (fun iv _ => N - (intOf iv).toNat)
        case atStart => exact ⟨1, rfl, Nat.le_refl _, .inr rfl, hide ⟨fun j x y h => by omega, Kp.refl _ _⟩⟩
        case round =>
          clear hge hi0
          obtain ⟨i, rfl, hi1, hi, hk⟩ := hrel
          have hi0 : (0 : Int) ≤ (i : Int) := by omega
          have kL := hI.out.2.andNu hk.out.2
          have kw := (HB.out.2.andNu (HR.out.2.andAlloc X)).andNu kL
          have HKL := hide kL
          by_cases hlt : i < N
          · have hltI : (i : Int) < (N : Int) := by omega
            obtain ⟨m, hm⟩ : ∃ m, i = m + 1 := ⟨i - 1, by omega⟩
            obtain ⟨x, hx⟩ : ∃ x, ks[i]? = some x := ⟨_, List.getElem?_eq_getElem (by rw [HU.out.2.2]; exact hlt)⟩
            obtain ⟨y, hy⟩ : ∃ y, ks[m]? = some y := ⟨_, List.getElem?_eq_getElem (by rw [HU.out.2.2]; omega)⟩
            obtain ⟨b1, rfl, k1⟩ := (HU.out.2.1.nu kw).at_ hx
            obtain ⟨b2, e2, k2⟩ := (HU.out.2.1.nu kw).at_ hy
            cases e2
            have HX := hide (And.intro hx (And.intro hy hm))
            have eti : (i : Int).toNat = i := by omega
            have ew : IntKind.i64.wrap ((i : Int) - 1) = (m : Int) := by rw [IntKind.wrap_i64]; omega
            have etm : (m : Int).toNat = m := by omega
            have hm0 : 0 ≤ (m : Int) := by omega
            have hm1 : (m : Int) < (N : Int) := by omega
            clear hx hy hm kL kw
            by_cases hle : y ≥ x
            · have HL := hide hle
              have hld : decide (y ≥ x) = true := by simpa using hle
              go_wp2_with fail
              go_quiet (fail)
              obtain ⟨bx0, bx1⟩ := HBX.out _ (HKL.out.andNu (kp_dn wr nq))
              obtain ⟨y0, y1⟩ := cell2' bx0
              obtain ⟨y5, y6⟩ := cell2' bx1
              have g0 := free3 bx0 0
              have g1 := free3 bx0 1
              clear bx0 bx1
              go_wp2
              obtain ⟨z0, z1, z2⟩ := HFIN.out _ (HKL.out.andNu (kp_dn wr nq))
              obtain ⟨q0, q1⟩ := cell2' z0
              refine bodyPost_ret (v := .tuple #[.agg #[.int .i64 L, .slice va vl vc], .bool false]) (by simp [results, Try.results44, go_sem, q0, q1]) rfl ⟨L, _, false, rfl, ⟨_, _, _, rfl⟩, ?_, fun h => (by cases h), z1⟩
              simp
              intro hL
              have hX1 := HX.out.1
              rw [HX.out.2.2] at hX1
              have h1 := hL.2.2 m y x HX.out.2.1 hX1
              have h2 := HL.out
              omega
            · have HL := hide hle
              have hld : decide (y ≥ x) = false := by simpa using hle
              go_wp2_with fail
              go_quiet (fail)
              go_wp2
              refine ⟨⟨i + 1, by go_num, by omega, .inl (by omega), hide ⟨fun j x' y' hj hx' hy' => ?_, hk.out.2.andNu (kp_dn _ _)⟩⟩, by simp [intOf]; omega⟩
              have hm := HX.out.2.2
              rcases Nat.lt_or_ge (j + 1) i with h | h
              · exact hk.out.1 j x' y' h hx' hy'
              · obtain rfl : j = m := by omega
                have e1 := HX.out.1
                have e2 := HX.out.2.1
                rw [hm] at e1
                rw [hx'] at e2
                rw [hy'] at e1
                cases e1
                cases e2
                have := HL.out
                omega
          · have hge : ¬ (i : Int) < (N : Int) := by omega
            obtain ⟨bx0, bx1⟩ := HBX.out _ kL
            obtain ⟨y0, y1⟩ := cell2' bx0
            obtain ⟨y5, y6⟩ := cell2' bx1
            have g0 := free3 bx0 0
            have g1 := free3 bx0 1
            clear kL kw bx0 bx1
            go_wp2
            obtain ⟨z0, z1, z2⟩ := HFIN.out _ HKL.out
            obtain ⟨q0, q1⟩ := cell2' z0
            refine bodyPost_ret (v := .tuple #[.agg #[.int .i64 L, .slice va vl vc], .bool true]) (by simp [results, Try.results44, go_sem, q0, q1]) rfl ⟨L, _, true, rfl, ⟨_, _, _, rfl⟩, ?_, fun _ => z2 HT.out.2.2.2, z1⟩
            simp
            refine ⟨HT.out.2.2.2, by rw [HT.out.2.2.1]; exact HH.out, fun j x y hx hy => ?_⟩
            have h1 := (List.getElem?_eq_some_iff.1 hy).1
            rw [HU.out.2.2] at h1
            exact hk.out.1 j x y (by omega) hx hy
  · have hfb : (f != 0) = true := by simpa using hf
    have HF := hide hf
    clear hf
    go_wp2
    obtain ⟨z0, z1, z2⟩ := HFIN.out _ (Kp.refl Nu _)
    obtain ⟨q0, q1⟩ := cell2' z0
    exact bodyPost_ret (v := .tuple #[.agg #[.int .i64 L, .slice va vl vc], .bool false]) (by simp [results, Try.results44, go_sem, q0, q1]) rfl ⟨L, _, false, rfl, ⟨_, _, _, rfl⟩, by simp; exact fun h => HF.out ((rrs_iff HR.out.1).2 h.1), fun h => (by cases h), z1⟩
end Go.Proofs.Ytbifmcadllilhaa.Rg
namespace Go.Proofs.Ytbifmcadllilhaa.Rg
open Go.RowKit Go.Shelf Go.Sort
open Go.Proofs.Ytbifmcadllilhaa.It
set_option linter.unusedVariables false
/-- what Loads answers -/
def LoR (w w' : World) (n : Int) (M : List Sg) (ks : List Int) (v : Value) (c : Int) : Prop :=
  (¬ (1 ≤ n ∧ n ≤ 16) ∧ v = .slice none 0 0 ∧ c = 2) ∨ ((1 ≤ n ∧ n ≤ 16) ∧ ¬ LayB n M ks ∧ v = .slice none 0 0 ∧ c = 151) ∨
  ((1 ≤ n ∧ n ≤ 16) ∧ LayB n M ks ∧ c = 0 ∧ ∃ N : Nat, n = (N : Int) ∧ w'.ownsRow w.heap.size 3 1 v N (Pn.ics (Pn.lds N (ks.map (ow (lays [] M))))))
theorem Rs.of_own {w : World} {B : Nat} {v : Value} {T : List Sg} (h : w.ownsRow B 82 3 v T.length (cells T)) (hT : 0 < T.length) : Rs w v T := rs_of_own h hT
theorem ow_nn {L : List Sg} (h : Tab L) {k : Int} (h0 : 0 ≤ k) (h1 : k < 18446744073709551616) : 0 ≤ ow L k := by
  obtain ⟨s, hs, _, _, e, _⟩ := plc_facts h.cov h0 h1
  rw [← e]
  exact (h.hs s (List.mem_of_getElem? hs)).1
set_option maxRecDepth 100000 in
set_option maxHeartbeats 2000000 in
theorem loads20 (w : World) (n : Int) (u k : Value) (M : List Sg) (ks : List Int) (hM : Sgs w u M) (hlen : (M.length : Int) ≤ 5864062014634) (hk : Us w k ks) (hkl : ks.length * 8 ≤ 140737488351232) (hkr : ∀ x ∈ ks, 0 ≤ x ∧ x < 18446744073709551616) :
    Calls Try.prog 20 #[.int .i64 n, u, k] w fun e w' => ∃ v c, e = .returned (.tuple #[v, .int .i64 c]) ∧ LoR w w' n M ks v c ∧ Kp Nu w w' := by
  have mixed : Try.prog.follows .mixedOrders = true := by kernel_rfl
  have LA := layout44 w n u k M ks hM hlen hk (by omega)
  obtain ⟨ad, cap, hu⟩ := hM.slice
  obtain ⟨a1, c1, rfl, _, _⟩ := id hk
  obtain ⟨N, eN⟩ : ∃ N, ks.length = N := ⟨_, rfl⟩
  have HU := hide (And.intro hM (And.intro hk (And.intro eN (And.intro hkl hkr))))
  rw [eN] at hkl LA ⊢
  generalize M.length = NM at hu
  subst hu
  clear hM hk eN hlen hkr
  by_cases h1 : n < 1
  · have x1 : decide (n < 1) = true := by simpa using h1
    have H1 := hide h1
    clear h1 LA
    go_enter Try.func20, Try.ntmps20
    go_wp2
    go_ret2
    exact ⟨_, _, rfl, .inl ⟨fun h => by have := H1.out; omega, rfl, rfl⟩, Kp.refl _ _⟩
  have x1 : decide (n < 1) = false := by simpa using h1
  by_cases h2 : n > 16
  · have x2 : decide (n > 16) = true := by simpa using h2
    have H1 := hide h2
    clear h1 h2 LA
    go_enter Try.func20, Try.ntmps20
    go_wp2
    go_ret2
    exact ⟨_, _, rfl, .inl ⟨fun h => by have := H1.out; omega, rfl, rfl⟩, Kp.refl _ _⟩
  have x2 : decide (n > 16) = false := by simpa using h2
  have hn : 1 ≤ n ∧ n ≤ 16 := by omega
  have HN := hide hn
  clear h1 h2 hn
  go_enter Try.func20, Try.ntmps20
  go_wp2_with fail
  refine LA.mono ?_; rintro e w1 ⟨L, v, b, rfl, ⟨va, vl, vc, rfl⟩, hb, ho, hk1⟩
  have HL := hide (And.intro hb (And.intro ho hk1))
  clear LA hb ho hk1
  cases b with
  | false =>
    go_wp2
    go_ret2
    exact ⟨_, _, rfl, .inr (.inl ⟨HN.out, fun h => by simpa using HL.out.1.2 h, rfl, rfl⟩), HL.out.2.2.andAlloc _⟩
  | true =>
    have hLB := HL.out.1.1 rfl
    have hown := HL.out.2.1 rfl
    have tab := (lok_good hLB.1.1 hLB.1.2.1 HU.out.1.sgb).tab
    obtain ⟨T, eT⟩ : ∃ T, lays [] M = T := ⟨_, rfl⟩
    have hT8 := hLB.1.2.2
    rw [eT] at hown tab hT8
    have k2 := HL.out.2.2.andAlloc (.cells #[.int .i64 L, .slice va vl vc] 76)
    have rs := (rs_of_own hown (tab.ne)).nu (Kp.alloc w1 (.cells #[.int .i64 L, .slice va vl vc] 76) Nu)
    have OW := owners45 _ L (.slice va vl vc) T rs tab (by omega) _ ks (HU.out.2.1.nu k2) hLB.2.2 HU.out.2.2.2.2 HU.out.2.2.2.1
    rw [HU.out.2.2.1] at OW
    have HT := hide (And.intro hLB (And.intro tab (And.intro eT k2)))
    clear hLB hown tab eT hT8 k2 rs
    go_wp2_with fail
    refine OW.mono ?_; rintro e w2 ⟨oa, oc, rfl, ho2, hk2⟩
    obtain ⟨n', hn'⟩ : ∃ n' : Nat, n = (n' : Int) := ⟨n.toNat, by have := HN.out; omega⟩
    have CO := Pn.counted46 w2 n' (.slice oa N oc) (ks.map (ow T)) (by
      have e : N = (ks.map (ow T)).length := by rw [List.length_map, HU.out.2.2.1]
      refine Pn.Ns.of_own (B := (w1.alloc (.cells #[.int .i64 L, .slice va vl vc] 76)).heap.size) ?_
      rw [← e]
      exact ho2) (by have := HN.out; omega) (fun x hx => by
        obtain ⟨y, hy, rfl⟩ := List.mem_map.1 hx
        have := HU.out.2.2.2.2 y hy
        exact ow_nn HT.out.2.1 this.1 this.2) (by rw [List.length_map, HU.out.2.2.1]; omega)
    have H2 := hide (HT.out.2.2.2.andNu hk2)
    subst hn'
    clear OW ho2 hk2
    go_wp2_with fail
    refine CO.mono ?_; rintro e w3 ⟨g, rfl, ho3, hk3⟩
    have H3 := hide (And.intro (own_base ho3 H2.out.size) (H2.out.andNu (Kp.ofPn hk3)))
    clear CO ho3 hk3
    go_wp2
    go_ret2
    exact ⟨_, _, rfl, .inr (.inr ⟨HN.out, HT.out.1, rfl, n', rfl, by rw [HT.out.2.2.1]; exact H3.out.1⟩), H3.out.2⟩
end Go.Proofs.Ytbifmcadllilhaa.Rg
