import Derived.Test.YtchealdgncgjoaaMvE
import Derived.BigQuiet
import Derived.Deep.QuietTactic
import Derived.Deep.RegionHeld3
import Derived.Deep.DeepCutAuto
import Derived.Laws.Concat
namespace Go.Proofs.Ytchealdgncgjoaa.StU
open Go.RowKit Go.Proofs.Ytchealdgncgjoaa.St Go.Shelf
set_option linter.unusedVariables false
set_option linter.unusedSimpArgs false
/-- keys that came in -/
def Wk (W : World) (v : Value) (S : List Int) : Prop := ∃ ad cap, v = .slice ad S.length cap ∧ ∀ (i : Nat) (k : Int), S[i]? = some k → ∃ b off, ad = some ⟨b, off, none⟩ ∧ W.cell? ⟨b, off + i, none⟩ = some (.int .u64 k) ∧ 0 ≤ k ∧ k ≤ 18446744073709551615
/-- moves that came in -/
structure Mv where
  lo : Int
  hi : Int
  bk : Bool
def Wm (W : World) (v : Value) (T : List Mv) : Prop := ∃ ad cap, v = .slice ad T.length cap ∧ ∀ (i : Nat) (s : Mv), T[i]? = some s → ∃ b off, ad = some ⟨b, off, none⟩ ∧ W.cell? ⟨b, off + i * 3, none⟩ = some (.int .u64 s.lo) ∧ W.cell? ⟨b, off + i * 3 + 1, none⟩ = some (.int .u64 s.hi) ∧ W.cell? ⟨b, off + i * 3 + 2, none⟩ = some (.bool s.bk)
abbrev lst (ls : List Nat) : List Value := ls.map (fun (l : Nat) => Value.int .i64 (l : Int))
theorem row_set {w : World} {B n i : Nat} {r cap : Nat} {l : List Value} (h : w.ownsRow B 3 1 (.slice (some ⟨r, 0, none⟩) n cap) n l) (u : Value) : (w.setCell ⟨r, i, none⟩ u).ownsRow B 3 1 (.slice (some ⟨r, 0, none⟩) n cap) n (l.set i u) := by
  refine ⟨by simpa using h.1, ?_⟩
  rcases h.2 with ⟨e, h0⟩ | ⟨g, cap', cur, e, hb, hg, h1, h2, h3, h4⟩
  · cases e
  · cases e
    refine .inr ⟨r, cap, cur.setIfInBounds i u, rfl, hb, set3 hg i u, h1, h2, by simpa using h3, ?_⟩
    rw [Array.toList_setIfInBounds, ← h4, List.take_set]
theorem row_at {w : World} {B : Nat} {v : Value} {n i : Nat} {l : List Value} {u : Value} (h : w.ownsRow B 3 1 v n l) (hn : l.length = n) (hi : l[i]? = some u) : ∃ r cap, v = .slice (some ⟨r, 0, none⟩) n cap ∧ B ≤ r ∧ r < w.heap.size ∧ (∃ c, w.heap[r]? = some (.cells c 3 (0, 0))) ∧ w.cell? ⟨r, i, none⟩ = some u := by
  have hlt : i < l.length := (List.getElem?_eq_some_iff.1 hi).1
  rcases h.2 with ⟨_, h0⟩ | ⟨r, cap, cur, e, hB, hg, h1, h2, h3, h4⟩
  · omega
  · refine ⟨r, cap, e, hB, blk_lt hg, ⟨cur, hg⟩, ?_⟩
    have e1 : cur.toList[i]? = some u := by
      rw [← h4, List.getElem?_take_of_lt (by omega)] at hi
      exact hi
    simpa [World.cell?, hg] using e1
theorem row_low {V : World} {B : Nat} {n : Nat} {l : List Value} {v : Value} (h : V.ownsRow B 3 1 v n l) {g : Nat} (hg : v.ownBlock = some g) : B ≤ g := by
  rcases h.2 with ⟨rfl, h0⟩ | ⟨g', cap, cur, rfl, hb', hg', _⟩
  · cases hg
  · simp [Value.ownBlock] at hg; subst hg; exact hb'
/-- a change of the row of numbers leaves a shelf as it is -/
theorem Sh.row {w w' : World} {sb mb : Nat} {most : Int} {t : T (Int × Sv)} {M : List KV} {B n : Nat} {v : Value} {l : List Value} (h : Sh w sb mb most t M) (ho : w.ownsRow B 3 1 v n l) (k : Kp (fun i => v.ownBlock = some i) w w') : Sh w' sb mb most t M :=
  h.keep k (fun i c ty hs hc => by
    obtain ⟨cur, h2⟩ := own_obj ho hs
    rw [h2] at hc; cases hc
    decide)
/-- a change of a shelf leaves the row of numbers as it is -/
theorem row_sh {w w' : World} {sb mb : Nat} {most : Int} {t : T (Int × Sv)} {M : List KV} {B n : Nat} {v : Value} {l : List Value} (h : Sh w sb mb most t M) (ho : w.ownsRow B 3 1 v n l) (k : Kp (Sm sb mb) w w') : w'.ownsRow B 3 1 v n l :=
  own_keep ho (fun g hg => by
    obtain ⟨cur, h2⟩ := own_obj ho hg
    exact k.block g (blk_lt h2) (fun hs => by
      rcases h.sm g _ _ _ hs h2 with e | e <;> cases e))
theorem row_nu {w w' : World} {B n : Nat} {v : Value} {l : List Value} (ho : w.ownsRow B 3 1 v n l) (k : Kp Nu w w') : w'.ownsRow B 3 1 v n l :=
  own_keep ho (fun g hg => k.block g (own_lt ho hg) (fun e => e))
/-- Set of a value of three bytes -/
theorem set_val {w : World} {sb mb : Nat} {most : Int} {t : T (Int × Sv)} {M : List KV} (h : Sh w sb mb most t M) {k : Int} (hk0 : 0 ≤ k) (hk1 : k ≤ 18446744073709551615) (u : Value) (i : Nat) (hu : Rd w u (vl i k)) (hr : (M.length : Int) < most) :
    Calls Try.prog 47 #[.pointer (some ⟨sb, 0, none⟩), .int .u64 k, u] w fun e w' => e = .returned (.tuple #[.bool (!hs k M), .int .i64 0]) ∧ (∃ t', Sh w' sb mb most t' (putM k (vl i k) M)) ∧ Kp (Sm sb mb) w w' := by
  refine (set_ok h k hk0 hk1 u (vl i k) hu (by rw [vl_len]; decide) (vl_byt i k) (.inr hr)).mono ?_
  rintro e w' ⟨e1, ⟨v, _, h2⟩, h3⟩
  exact ⟨e1, ⟨_, h2⟩, h3⟩
theorem infoI : (Try.prog.info? 3).map (fun i => (i.zero, i.size, i.bytes)) = some (some (.int .i64 0), 1, 8) := by kernel_rfl
/-- the row of numbers grows by one -/
theorem row_app {w w4 w6 : World} {n : Nat} {ao : Option Addr} {ac : Nat} {l : List Value} {o : Obj} (ho : w4.ownsRow w.heap.size 3 1 (.slice ao n ac) n l) (k : Kp Nu w w4) (g : (w4.alloc o).grownBy w6 (Value.slice ao n ac).ownBlock) :
    Kp Nu w w6 ∧ ∀ sb mb most t M, Sh w4 sb mb most t M → Sh w6 sb mb most t M := by
  have ka := Kp.alloc w4 o Nu
  refine ⟨(k.andNu ka).trans (Kp.of_grown g) (fun i hi e => ?_), fun sb mb most t M h => (h.nu ka).row (row_nu ho ka) ((Kp.of_grown g).mono (fun i hi e => e.symm))⟩
  have := row_low ho e.symm
  omega
/-- a place of the row of numbers is written over -/
theorem row_put {w w4 : World} {n j r cap : Nat} {l : List Value} (u : Value) (ho : w4.ownsRow w.heap.size 3 1 (.slice (some ⟨r, 0, none⟩) n cap) n l) (k : Kp Nu w w4) :
    Kp Nu w (w4.setCell ⟨r, j, none⟩ u) ∧ ∀ sb mb most t M, Sh w4 sb mb most t M → Sh (w4.setCell ⟨r, j, none⟩ u) sb mb most t M := by
  refine ⟨k.trans (Kp.setCell _ _ _) (fun i hi e => ?_), fun sb mb most t M h => h.row ho ((Kp.setCell _ _ _).mono (fun i hi e => ?_))⟩
  · have := row_low ho (show (Value.slice (some ⟨r, 0, none⟩) n cap).ownBlock = some i by rw [show i = r from e]; rfl)
    omega
  · rw [show i = r from e]; rfl
set_option maxRecDepth 100000 in
set_option maxHeartbeats 4000000 in
theorem moves_walk (w : World) (v0 v1 : Value) (S : List Int) (T : List Mv) (hS : Wk w v0 S) (hT : Wm w v1 T) (hsl : S.length ≤ 17592186043904) (htl : T.length ≤ 17592186043904) :
    Calls Try.prog 13 #[v0, v1] w fun e w' => e = .returned (.bool true) ∧ Kp Nu w w' := by
  have mixed : Try.prog.follows .mixedOrders = true := by kernel_rfl
  obtain ⟨ad, cap, rfl, hc⟩ := hS
  obtain ⟨md, mcap, rfl, hmc⟩ := hT
  obtain ⟨N, eN⟩ : ∃ N, S.length = N := ⟨_, rfl⟩
  obtain ⟨Q, eQ⟩ : ∃ Q, T.length = Q := ⟨_, rfl⟩
  rw [eN] at hsl ⊢
  rw [eQ] at htl ⊢
  have HS : Hid (∀ W, Kp Nu w W → ∀ (i : Nat) (k : Int), S[i]? = some k → ∃ b off, ad = some ⟨b, off, none⟩ ∧ W.cell? ⟨b, off + i, none⟩ = some (.int .u64 k) ∧ 0 ≤ k ∧ k ≤ 18446744073709551615) := hide (fun W q i k h => by
    obtain ⟨b, off, e, c0, c3⟩ := hc i k h
    exact ⟨b, off, e, cell_nu c0 q, c3⟩)
  have HT : Hid (∀ W, Kp Nu w W → ∀ (i : Nat) (s : Mv), T[i]? = some s → ∃ b off, md = some ⟨b, off, none⟩ ∧ W.cell? ⟨b, off + i * 3, none⟩ = some (.int .u64 s.lo) ∧ W.cell? ⟨b, off + i * 3 + 1, none⟩ = some (.int .u64 s.hi) ∧ W.cell? ⟨b, off + i * 3 + 2, none⟩ = some (.bool s.bk)) := hide (fun W q i s h => by
    obtain ⟨b, off, e, c0, c1, c2⟩ := hmc i s h
    exact ⟨b, off, e, cell_nu c0 q, cell_nu c1 q, cell_nu c2 q⟩)
  have HN := hide (And.intro hsl (And.intro htl (And.intro eN eQ)))
  by_cases hbig : 30000 ≤ N
  · have NA : ∀ W, Calls Try.prog 45 #[.int .i64 ((N : Int) % 30000)] W fun e w' => ∃ sb mb, e = .returned (.tuple #[.pointer (some ⟨sb, 0, none⟩), .int .i64 0]) ∧ Kp Nu W w' := fun W => by
      refine (new_ok W ((N : Int) % 30000) (by omega) (by omega)).mono ?_
      rintro e w' ⟨sb, mb, h1, h2, h3, h4, h5⟩
      exact ⟨sb, mb, h1, h5⟩
    have hbI : (30000 : Int) ≤ (N : Int) := by omega
    have NA0 := NA w
    clear hc hmc hsl htl eN eQ hbig HS HT
    go_enter Try.func13, Try.ntmps13
    go_wp2_with (go_at_call 45; refine NA0.mono ?_; rintro e w1 ⟨sa, ma, rfl, k1⟩; clear NA0)
    have NB := NA w1
    clear NA
    go_wp2_with (go_at_call 45; refine NB.mono ?_; rintro e w2 ⟨sb, mb, rfl, k2⟩)
    go_ret
    exact ⟨rfl, k1.andNu k2⟩
  · have e2 : (N : Int) % 30000 = (N : Int) := by omega
    have NA : ∀ W, Calls Try.prog 45 #[.int .i64 ((N : Int) % 30000)] W fun e w' => ∃ sb mb, e = .returned (.tuple #[.pointer (some ⟨sb, 0, none⟩), .int .i64 0]) ∧ Hid (W.heap.size ≤ sb ∧ W.heap.size ≤ mb ∧ Sh w' sb mb (N : Int) .nil [] ∧ Kp Nu W w') := fun W => by
      refine (new_ok W _ (by omega) (by omega)).mono ?_
      rintro e w' ⟨sb, mb, h1, h2, h3, h4, h5⟩
      rw [e2] at h4
      exact ⟨sb, mb, h1, h2, h3, h4, h5⟩
    have HNB : Hid ((N : Int) < 30000) := by show (N : Int) < 30000; omega
    have hbB : decide ((30000 : Int) ≤ (N : Int)) = false := decide_eq_false (by omega)
    have NA0 := NA w
    clear hc hmc hsl htl eN eQ hbig e2
    go_enter Try.func13, Try.ntmps13
    go_wp2_with (go_at_call 45; refine NA0.mono ?_; rintro e w1 ⟨sa, ma, rfl, H1⟩; clear NA0)
    have NB := NA w1
    clear NA
    go_wp2_with (go_at_call 45; refine NB.mono ?_; rintro e w2 ⟨sb, mb, rfl, H2⟩)
    have HA : Hid (Sh w2 sa ma (N : Int) .nil [] ∧ Sh w2 sb mb (N : Int) .nil [] ∧ Kp Nu w w2 ∧ w.heap.size ≤ sa ∧ w.heap.size ≤ ma ∧ w.heap.size ≤ sb ∧ w.heap.size ≤ mb ∧ sb ≠ sa ∧ mb ≠ ma) := by
      obtain ⟨a1, a2, hA1, k1⟩ := H1.out
      obtain ⟨b1, b2, b3, b4⟩ := H2.out
      have hz := k1.size
      have l1 := blk_lt hA1.box
      have l2 := hA1.m.lt
      exact ⟨hA1.nu b4, b3, k1.andNu b4, a1, a2, by omega, by omega, by omega, by omega⟩
    clear H1 H2 NB
    go_loopw [9, 10] (fun lv it wr => ∃ (i n ac : Nat) (ao : Option Addr), it = .int .i64 (i : Int) ∧ lv = .slice ao n ac ∧ i ≤ N ∧ Hid (∃ ls ta Ma, n = ls.length ∧ wr.ownsRow w.heap.size 3 1 (.slice ao n ac) n (lst ls) ∧ Sh wr sa ma (N : Int) ta Ma ∧ Sh wr sb mb (N : Int) .nil [] ∧ Lo1 S i ls Ma ∧ Kp Nu w wr)) (fun _ it _ => N - (intOf it).toNat)
    case atStart => exact ⟨0, 0, 0, none, rfl, rfl, Nat.zero_le _, [], .nil, [], rfl, own_nil', HA.out.1, HA.out.2.1, ⟨rfl, Nat.le_refl _, fun l hl => by simp at hl, fun m hm => by simp at hm⟩, HA.out.2.2.1⟩
    case round =>
      obtain ⟨i, n, ac, ao, rfl, rfl, hi, HR⟩ := hrel
      obtain ⟨ls, ta, Ma, hn, hrow, hshA, hshB, hlo, kwr⟩ := HR.out
      by_cases hlt : i < N
      · obtain ⟨k, hk⟩ : ∃ k, S[i]? = some k := ⟨_, List.getElem?_eq_getElem (by rw [HN.out.2.2.1]; exact hlt)⟩
        obtain ⟨b, off, ead, c0, hk0, hk1⟩ := HS.out wr kwr i k hk
        subst ead
        have HSC : Hid (∀ W, Kp Nu w W → W.cell? ⟨b, off + i, none⟩ = some (.int .u64 k)) := hide (fun W q => by
          obtain ⟨b', off', e', d0, _⟩ := HS.out W q i k hk
          cases e'; exact d0)
        have VA : ∀ W, Kp Nu wr W → Calls Try.prog 62 #[.slice (some ⟨b, off, none⟩) N cap, .int .i64 (i : Int)] W fun e w' => ∃ g, e = .returned (.slice (some ⟨g, 0, none⟩) 3 3) ∧ Rd w' (.slice (some ⟨g, 0, none⟩) 3 3) (vl i k) ∧ Kp Nu wr w' := fun W q => by
          refine (value62 W b off N cap i k (HSC.out W (kwr.andNu q)) hlt (by have := HNB.out; omega) hk0 hk1).mono ?_
          rintro e w' ⟨g, e1, e3, e4⟩
          exact ⟨g, e1, Rd.of_own e3, q.andNu e4⟩
        have hroom : (Ma.length : Int) < (N : Int) := by
          have h1 := hlo.ln
          have h2 := hlo.le
          omega
        have SC : ∀ W g, Kp Nu wr W → Rd W (.slice (some ⟨g, 0, none⟩) 3 3) (vl i k) → Calls Try.prog 47 #[.pointer (some ⟨sa, 0, none⟩), .int .u64 k, .slice (some ⟨g, 0, none⟩) 3 3] W fun e w' => e = .returned (.tuple #[.bool (!hs k Ma), .int .i64 0]) ∧ Hid (∃ ta', w'.ownsRow w.heap.size 3 1 (.slice ao n ac) n (lst ls) ∧ Sh w' sa ma (N : Int) ta' (putM k (vl i k) Ma) ∧ Sh w' sb mb (N : Int) .nil []) ∧ Kp Nu w w' := fun W g q hv => by
          refine (set_val (hshA.nu q) hk0 hk1 _ i hv hroom).mono ?_
          rintro e w' ⟨e1, ⟨t', e2⟩, e5⟩
          exact ⟨e1, ⟨t', row_sh (hshA.nu q) (row_nu hrow q) e5, e2, (hshB.nu q).beside (hshA.nu q) e5 HA.out.2.2.2.2.2.2.2.1 HA.out.2.2.2.2.2.2.2.2⟩, kp_sm2 (kwr.andNu q) HA.out.2.2.2.1 HA.out.2.2.2.2.1 e5⟩
        have hltI : (i : Int) < (N : Int) := by omega
        have hi00 : (0 : Int) ≤ (i : Int) := by omega
        have hwi : wrap64 ((i : Int) + 1) = ((i + 1 : Nat) : Int) := by have := HN.out.1; unfold wrap64; omega
        have HW := hide (And.intro hlt (And.intro hwi (And.intro hk (And.intro hlo (And.intro hshA.ris hn)))))
        have kr0 := Kp.refl Nu wr
        cases hh : hs k Ma with
        | false =>
          rw [hh] at SC
          clear hk hn hrow hshA hshB hlo hlt hi hroom hwi HR hk0 hk1
          go_wp2_with fail
          go_region_held3 (fun W => W.cell? ⟨b, off + i, none⟩ = some (.int .u64 k)) (first | (refine HSC.out _ ?_; first | assumption | (apply Kp.drew; assumption); done) | (refine HSC.out _ (kwr.andNu ?_); repeat (first | assumption | exact Kp.refl _ _ | apply Kp.drew)))
            (first
              | (go_at_call 62; refine (VA _ ?_).mono ?_; (repeat (first | assumption | exact Kp.refl _ _ | apply Kp.drew)); rintro e w3 ⟨g, rfl, hv3, k3⟩)
              | (go_at_call 47; refine (SC _ g ?_ ?_).mono ?_; assumption; assumption; rintro e w4 ⟨rfl, h4, k4⟩))
          clear HSC VA SC hv3 k3
          obtain ⟨i0, hi0, hz0, hz1, hz2⟩ := info_parts infoI
          obtain ⟨ta', o4, a4, b4⟩ := h4.out
          have HB4 := hide (And.intro a4 b4)
          have hnN : n ≤ 30000 := by have h1 := HW.out.2.2.2.2.2; have h2 := HW.out.2.2.2.1.le; have h3 := HW.out.1; have h5 := HNB.out; omega
          have HNN := hide hnN
          have HK4 := hide k4
          clear h4 a4 b4 hnN
          go_wp2_with (at_builtin; refine wpList_append_own _ rfl _ _ 47 rfl w.heap.size 3 i0 (.int .i64 0) 1 8 Try.underlying47 hi0 hz0 hz1 hz2 rfl (by decide) _ n _ rfl (row_nu o4 (Kp.alloc _ _ _)) ⟨w4.heap.size, 0, none⟩ 1 1 [.int .i64 (i : Int)] rfl ?qc1 ?qc2 ?qc3 ?qc4 ?qc5 ?qc6 ?_)
          case qc1 => rfl
          case qc2 => exact cell_one_new _ _ _
          case qc3 => intro x hx; simp at hx; rw [hx]; rfl
          case qc4 => have := HNN.out; unfold maxLen; omega
          case qc5 => have := HNN.out; omega
          case qc6 => have := HK4.out.size; simp; omega
          intro v' w6 hown hgrow hnil
          obtain ⟨kk, hkeep⟩ := row_app o4 HK4.out hgrow
          obtain ⟨av, cv, ev⟩ := own_slice hown
          subst ev
          have HF : Hid (∃ ls' ta Ma, n + 1 = ls'.length ∧ w6.ownsRow w.heap.size 3 1 (.slice av (n + 1) cv) (n + 1) (lst ls') ∧ Sh w6 sa ma (N : Int) ta Ma ∧ Sh w6 sb mb (N : Int) .nil [] ∧ Lo1 S (i + 1) ls' Ma ∧ Kp Nu w w6) := by
            obtain ⟨_, _, hk, hlo, hris, hn⟩ := HW.out
            refine ⟨ls ++ [i], ta', putM k (vl i k) Ma, by rw [List.length_append, hn]; rfl, ?_, hkeep _ _ _ _ _ HB4.out.1, hkeep _ _ _ _ _ HB4.out.2, hlo.first hris hk hh, kk⟩
            have e : lst (ls ++ [i]) = lst ls ++ [.int .i64 (i : Int)] := by simp [lst]
            rw [e]; exact hown
          clear hown hgrow hnil kk hkeep o4 k4
          go_wp2
          exact ⟨⟨i + 1, n + 1, cv, av, by rw [HW.out.2.1], rfl, HW.out.1, HF⟩, lt_mi HW.out.2.1 HW.out.1⟩
        | true =>
          rw [hh] at SC
          clear hk hn hrow hshA hshB hlo hlt hi hroom hwi HR hk0 hk1
          go_wp2_with fail
          go_region_held3 (fun W => W.cell? ⟨b, off + i, none⟩ = some (.int .u64 k)) (first | (refine HSC.out _ ?_; first | assumption | (apply Kp.drew; assumption); done) | (refine HSC.out _ (kwr.andNu ?_); repeat (first | assumption | exact Kp.refl _ _ | apply Kp.drew)))
            (first
              | (go_at_call 62; refine (VA _ ?_).mono ?_; (repeat (first | assumption | exact Kp.refl _ _ | apply Kp.drew)); rintro e w3 ⟨g, rfl, hv3, k3⟩)
              | (go_at_call 47; refine (SC _ g ?_ ?_).mono ?_; assumption; assumption; rintro e w4 ⟨rfl, h4, k4⟩))
          clear VA SC hv3 k3
          have HF : Hid (∃ ls ta, n = ls.length ∧ w4.ownsRow w.heap.size 3 1 (.slice ao n ac) n (lst ls) ∧ Sh w4 sa ma (N : Int) ta (putM k (vl i k) Ma) ∧ Sh w4 sb mb (N : Int) .nil [] ∧ Lo2 S i 0 k ls (putM k (vl i k) Ma) ∧ Kp Nu w w4) := by
            obtain ⟨_, _, hk, hlo, hris, hn⟩ := HW.out
            obtain ⟨ta', o4, a4, b4⟩ := h4.out
            exact ⟨ls, ta', hn, o4, a4, b4, hlo.again hris hk hh, k4⟩
          clear h4 k4 kr0
          go_wp2_with fail
          obtain ⟨wo, ewo⟩ : ∃ wo : World, wo = wr := ⟨_, rfl⟩
          subst ewo
          obtain ⟨M2, eM2⟩ : ∃ M2, M2 = putM k (vl i k) Ma := ⟨_, rfl⟩
          rw [← eM2] at HF
          go_loopw [13] (fun jt wr => ∃ j : Nat, jt = .int .i64 (j : Int) ∧ j ≤ n ∧ Hid (∃ ls ta, n = ls.length ∧ wr.ownsRow w.heap.size 3 1 (.slice ao n ac) n (lst ls) ∧ Sh wr sa ma (N : Int) ta M2 ∧ Sh wr sb mb (N : Int) .nil [] ∧ Lo2 S i j k ls M2 ∧ Kp Nu w wr)) (fun jt _ => n - (intOf jt).toNat)
          case atStart => exact ⟨0, rfl, Nat.zero_le _, HF⟩
          case round =>
            obtain ⟨j, rfl, hj, HJ⟩ := hrel
            obtain ⟨ls2, ta2, hn2, ho2, a2, b2, hl2, kwr2⟩ := HJ.out
            by_cases hjn : j < n
            · obtain ⟨l, hl⟩ : ∃ l, ls2[j]? = some l := ⟨_, List.getElem?_eq_getElem (by omega)⟩
              obtain ⟨r, rc, er, hBr, hrlt, ⟨rcs, hrc⟩, d0⟩ := row_at (i := j) (u := .int .i64 (l : Int)) ho2 (by simp [lst, hn2]) (by simp [lst, hl])
              obtain ⟨h1, k', hk', h3, h4⟩ := hl2.at_ j l hl
              obtain ⟨b', off', eb, d1, _, _⟩ := HS.out wr kwr2 l k' hk'
              cases eb
              have d2 := HSC.out wr kwr2
              cases er
              have hjI : (j : Int) < (n : Int) := by omega
              have hj0 : (0 : Int) ≤ (j : Int) := by omega
              have hlN : l < N := by rw [← HN.out.2.2.1]; exact (List.getElem?_eq_some_iff.1 hk').1
              have hlI : (l : Int) < (N : Int) := by omega
              have hl0 : (0 : Int) ≤ (l : Int) := by omega
              have hwj : wrap64 ((j : Int) + 1) = ((j + 1 : Nat) : Int) := by have h8 := HW.out.2.2.2.2.2; have h9 := HW.out.2.2.2.1.le; have h10 := HNB.out; have h11 := HW.out.1; unfold wrap64; omega
              have HJW := hide (And.intro hjn hwj)
              by_cases hkk : k' = k
              · have hkb : (k' == k) = true := by simp [hkk]
                have HF2 : Hid (∀ m, (∃ ls ta, n = ls.length ∧ ((wr.drewN m).setCell ⟨r, j, none⟩ (.int .i64 (i : Int))).ownsRow w.heap.size 3 1 (.slice (some ⟨r, 0, none⟩) n ac) n (lst ls) ∧ Sh ((wr.drewN m).setCell ⟨r, j, none⟩ (.int .i64 (i : Int))) sa ma (N : Int) ta M2 ∧ Sh ((wr.drewN m).setCell ⟨r, j, none⟩ (.int .i64 (i : Int))) sb mb (N : Int) .nil [] ∧ Lo2 S i (j + 1) k ls M2 ∧ Kp Nu w ((wr.drewN m).setCell ⟨r, j, none⟩ (.int .i64 (i : Int)))) ∧ (wr.drewN m).cell? ⟨r, j, none⟩ = some (.int .i64 (l : Int)) ∧ (wr.drewN m).frozen? ⟨r, j, none⟩ = false) := hide (fun m => by
                  have kq := kpN (Kp.refl Nu wr) m
                  obtain ⟨p1, p2⟩ := row_put (j := j) (.int .i64 (i : Int)) (row_nu ho2 kq) (kwr2.andNu kq)
                  refine ⟨⟨ls2.set j i, ta2, by rw [List.length_set]; exact hn2, ?_, p2 _ _ _ _ _ (a2.nu kq), p2 _ _ _ _ _ (b2.nu kq), hl2.same, p1⟩, cell_nu d0 kq, free3 hrc j⟩
                  have := row_set (i := j) (row_nu ho2 kq) (.int .i64 (i : Int))
                  rw [show lst (ls2.set j i) = (lst ls2).set j (.int .i64 (i : Int)) by simp [lst, List.map_set]]
                  exact this)
                clear ho2 a2 b2 hl2 hl hrc h1 hk' h3 h4 HJ hlN hwj hkk hj hn2 kwr2
                go_wp2_with fail
                go_quiet (fail)
                obtain ⟨hF, e0, f0⟩ := HF2.out nq
                have HF3 := hide hF
                clear hF HF2 hkb
                go_wp2
                exact ⟨⟨j + 1, by rw [HJW.out.2], HJW.out.1, HF3⟩, lt_mi HJW.out.2 HJW.out.1⟩
              · have hkb : (k' == k) = false := by simp [hkk]
                have HF2 : Hid (∀ m, (∃ ls ta, n = ls.length ∧ (wr.drewN m).ownsRow w.heap.size 3 1 (.slice (some ⟨r, 0, none⟩) n ac) n (lst ls) ∧ Sh (wr.drewN m) sa ma (N : Int) ta M2 ∧ Sh (wr.drewN m) sb mb (N : Int) .nil [] ∧ Lo2 S i (j + 1) k ls M2 ∧ Kp Nu w (wr.drewN m))) := hide (fun m => by
                  have kq := kpN (Kp.refl Nu wr) m
                  exact ⟨ls2, ta2, hn2, row_nu ho2 kq, a2.nu kq, b2.nu kq, hl2.other hl hk' hkk, kwr2.andNu kq⟩)
                clear ho2 a2 b2 hl2 hl hrc h1 hk' h3 h4 HJ hlN hwj hkk hj hn2 kwr2
                go_wp2_with fail
                go_quiet (fail)
                have HF3 := hide (HF2.out nq)
                clear HF2 hkb
                go_wp2
                exact ⟨⟨j + 1, by rw [HJW.out.2], HJW.out.1, HF3⟩, lt_mi HJW.out.2 HJW.out.1⟩
            · obtain rfl : j = n := by omega
              have HE : Hid (∃ ls ta Ma, j = ls.length ∧ wr.ownsRow w.heap.size 3 1 (.slice ao j ac) j (lst ls) ∧ Sh wr sa ma (N : Int) ta Ma ∧ Sh wr sb mb (N : Int) .nil [] ∧ Lo1 S (i + 1) ls Ma ∧ Kp Nu w wr) := ⟨ls2, ta2, M2, hn2, ho2, a2, b2, by rw [hn2] at hl2; exact hl2.done, kwr2⟩
              have hnl : ¬ (j : Int) < (j : Int) := by omega
              clear ho2 a2 b2 hl2 HJ hn2 kwr2 hjn hj HF
              go_wp2
              exact ⟨⟨i + 1, j, ac, ao, by rw [HW.out.2.1], rfl, HW.out.1, HE⟩, lt_mi HW.out.2.1 HW.out.1⟩
      · obtain rfl : i = N := by omega
        have HX : Hid (n = ls.length ∧ Lo1 S i ls Ma ∧ StU.Ris Ma ∧ (Ma.length : Int) ≤ (i : Int)) := ⟨hn, hlo, hshA.ris, hshA.lm⟩
        have HX2 : Hid (∃ ta Mx tb Mb, wr.ownsRow w.heap.size 3 1 (.slice ao n ac) n (lst ls) ∧ Sh wr sa ma (i : Int) ta Mx ∧ Sh wr sb mb (i : Int) tb Mb ∧ Tg Ma Mx Mb ∧ Kp Nu w wr) := ⟨ta, Ma, .nil, [], hrow, hshA, hshB, Tg.start Ma, kwr⟩
        have hnl : ¬ (i : Int) < (i : Int) := by omega
        clear hrow hshA hshB hlo hn hlt hi HR kwr
        go_wp2_with fail
        clear hnl
        go_loopw [14] (fun it wr => ∃ j : Nat, it = .int .i64 (j : Int) ∧ j ≤ Q ∧ Hid (∃ ta Mx tb Mb, wr.ownsRow w.heap.size 3 1 (.slice ao n ac) n (lst ls) ∧ Sh wr sa ma (i : Int) ta Mx ∧ Sh wr sb mb (i : Int) tb Mb ∧ Tg Ma Mx Mb ∧ Kp Nu w wr)) (fun it _ => Q - (intOf it).toNat)
        case atStart => exact ⟨0, rfl, Nat.zero_le _, HX2⟩
        case round =>
          clear HX2
          obtain ⟨j, rfl, hj, HJ⟩ := hrel
          obtain ⟨t1, M1, t2, M2, hro, hA, hB, htg, kwr⟩ := HJ.out
          by_cases hjQ : j < Q
          · obtain ⟨s, hs⟩ : ∃ s, T[j]? = some s := ⟨_, List.getElem?_eq_getElem (by rw [HN.out.2.2.2]; exact hjQ)⟩
            obtain ⟨mb', moff, emd, m0, m1, m2⟩ := HT.out wr kwr j s hs
            have HMC : Hid (∀ W, Kp Nu w W → W.cell? ⟨mb', moff + j * 3, none⟩ = some (.int .u64 s.lo) ∧ W.cell? ⟨mb', moff + j * 3 + 1, none⟩ = some (.int .u64 s.hi)) := hide (fun W q => by
              obtain ⟨b', off', e', d0, d1, _⟩ := HT.out W q j s hs
              rw [emd] at e'; cases e'; exact ⟨d0, d1⟩)
            subst emd
            obtain ⟨slo, shi, sbk⟩ := s
            simp only at m0 m1 m2 HMC
            have hjI : (j : Int) < (Q : Int) := by omega
            have hj0 : (0 : Int) ≤ (j : Int) := by omega
            have hwj : wrap64 ((j : Int) + 1) = ((j + 1 : Nat) : Int) := by have := HN.out.2.1; unfold wrap64; omega
            have HJW := hide (And.intro hjQ hwj)
            clear hs hwj hjQ
            cases sbk with
            | false =>
              by_cases hle : slo ≤ shi
              · have CU : ∀ W, Kp Nu wr W → Calls Try.prog 63 #[.pointer (some ⟨sa, 0, none⟩), .int .u64 slo, .int .u64 shi] W fun e w' => ∃ pa pn pc, e = .returned (.tuple #[.slice pa pn pc, .int .i64 0]) ∧ Hid (∃ S tf', Wp w' (.slice pa pn pc) S ∧ S.map kv = rg slo shi M1 ∧ Sh w' sa ma (i : Int) tf' (cutM slo shi M1) ∧ Sh w' sb mb (i : Int) t2 M2 ∧ w'.ownsRow w.heap.size 3 1 (.slice ao n ac) n (lst ls)) ∧ Kp Nu w w' := fun W q => by
                  refine (cut_in (hA.nu q) (hB.nu q) HA.out.2.2.2.2.2.2.2.1 HA.out.2.2.2.2.2.2.2.2 slo shi 0 (if_pos hle).symm).mono ?_
                  rintro e w' ⟨pa, pn, pc, e1, e2, e3⟩
                  obtain ⟨S', tf', f1, f2, f3, f4⟩ := e2.out
                  exact ⟨pa, pn, pc, e1, ⟨S', tf', f1, f2, f3, f4, row_sh (hA.nu q) (row_nu hro q) e3⟩, kp_sm2 (kwr.andNu q) HA.out.2.2.2.1 HA.out.2.2.2.2.1 e3⟩
                have HTG := hide (And.intro htg (And.intro hA.ris hA.m64))


                have c0 := m0
                have c1 := m1
                clear hro hA hB htg HJ hj m0 m1
                go_wp2_with fail
                go_region_held3 (fun W => W.cell? ⟨mb', moff + j * 3, none⟩ = some (.int .u64 slo) ∧ W.cell? ⟨mb', moff + j * 3 + 1, none⟩ = some (.int .u64 shi)) (first | (refine HMC.out _ ?_; first | assumption | (apply Kp.drew; assumption); done) | (refine HMC.out _ (kwr.andNu ?_); repeat (first | assumption | exact Kp.refl _ _ | apply Kp.drew)))
                  (first | (go_at_call 63; refine (CU _ ?_).mono ?_; (repeat (first | assumption | exact Kp.refl _ _ | apply Kp.drew)); rintro e w3 ⟨pa, pn, pc, rfl, H3, k3⟩))
                obtain ⟨S', tf', hwp, hSm, a3, b3, ro3⟩ := H3.out
                have LA : Calls Try.prog 64 #[.pointer (some ⟨sb, 0, none⟩), .slice pa pn pc] w3 fun e w' => e = .returned (.int .i64 0) ∧ Hid (∃ tg', w'.ownsRow w.heap.size 3 1 (.slice ao n ac) n (lst ls) ∧ Sh w' sa ma (i : Int) tf' (cutM slo shi M1) ∧ Sh w' sb mb (i : Int) tg' (layM S' M2) ∧ Tg Ma (cutM slo shi M1) (layM S' M2)) ∧ Kp Nu w w' := by
                  obtain ⟨htg, rf, h64⟩ := HTG.out
                  refine (lay_in a3 b3 (fun e => HA.out.2.2.2.2.2.2.2.1 e.symm) (fun e => HA.out.2.2.2.2.2.2.2.2 e.symm) hwp hSm rf h64 htg HX.out.2.2.2).mono ?_
                  rintro e w' ⟨e1, e2, e3⟩
                  obtain ⟨tg', f1, f2, f3⟩ := e2.out
                  exact ⟨e1, ⟨tg', row_sh b3 ro3 e3, f1, f2, f3⟩, kp_sm2 k3 HA.out.2.2.2.2.2.1 HA.out.2.2.2.2.2.2.1 e3⟩
                clear CU H3 hwp hSm a3 b3 ro3 HTG c0 c1
                go_wp2_with (go_at_call 64; refine LA.mono ?_; rintro e w5 ⟨rfl, H5, k5⟩)
                obtain ⟨tg', ro6, a6, b6, g6⟩ := H5.out
                obtain ⟨c0, c1⟩ := HMC.out _ k5
                have kw6 := hide k5
                have HF : Hid (∀ W, Kp Nu w5 W → ∃ ta Mx tb Mb, W.ownsRow w.heap.size 3 1 (.slice ao n ac) n (lst ls) ∧ Sh W sa ma (i : Int) ta Mx ∧ Sh W sb mb (i : Int) tb Mb ∧ Tg Ma Mx Mb ∧ Kp Nu w W) := hide (fun W kz => by
                  have kw6 := k5
                  exact ⟨tf', _, tg', _, row_nu ro6 kz, a6.nu kz, b6.nu kz, g6, kw6.andNu kz⟩)
                have CN : ∀ W, Kp Nu w5 W → Calls Try.prog 54 #[.pointer (some ⟨sa, 0, none⟩), .int .u64 slo, .int .u64 shi] W fun e w' => e = .returned (.int .i64 0) ∧ Kp Nu w5 w' := fun W q => by
                  refine (count_in (a6.nu q)).mono ?_
                  rintro e w' ⟨e1, e2⟩
                  exact ⟨e1, q.andNu e2⟩
                have kz0 := Kp.refl Nu w5
                clear LA H5 ro6 a6 b6 g6 k3
                go_quiet (fail)
                have kz1 := kpN kz0 nq
                clear c0 c1
                obtain ⟨c0, c1⟩ := HMC.out _ (kw6.out.andNu kz1)
                go_wp2_with fail
                go_region_held3 (fun W => W.cell? ⟨mb', moff + j * 3, none⟩ = some (.int .u64 slo) ∧ W.cell? ⟨mb', moff + j * 3 + 1, none⟩ = some (.int .u64 shi)) (first | (refine HMC.out _ (kw6.out.andNu ?_); repeat (first | assumption | exact kpN kz0 _ | exact Kp.refl _ _ | apply Kp.drew)))
                  (first | (go_at_call 54; refine (CN _ ?_).mono ?_; (repeat (first | assumption | exact kpN kz0 _ | exact Kp.refl _ _ | apply Kp.drew)); rintro e w7 ⟨rfl, k7⟩))
                have HF3 := hide (HF.out _ k7)
                clear HF CN c0 c1 mixed
                go_wp2
                exact ⟨⟨j + 1, by rw [HJW.out.2], HJW.out.1, HF3⟩, lt_mi HJW.out.2 HJW.out.1⟩
              · have CU : ∀ W, Kp Nu wr W → Calls Try.prog 63 #[.pointer (some ⟨sa, 0, none⟩), .int .u64 slo, .int .u64 shi] W fun e w' => ∃ pa pn pc, e = .returned (.tuple #[.slice pa pn pc, .int .i64 74]) ∧ Hid (∃ S tf', Wp w' (.slice pa pn pc) S ∧ S.map kv = rg slo shi M1 ∧ Sh w' sa ma (i : Int) tf' (cutM slo shi M1) ∧ Sh w' sb mb (i : Int) t2 M2 ∧ w'.ownsRow w.heap.size 3 1 (.slice ao n ac) n (lst ls)) ∧ Kp Nu w w' := fun W q => by
                  refine (cut_in (hA.nu q) (hB.nu q) HA.out.2.2.2.2.2.2.2.1 HA.out.2.2.2.2.2.2.2.2 slo shi 74 (if_neg hle).symm).mono ?_
                  rintro e w' ⟨pa, pn, pc, e1, e2, e3⟩
                  obtain ⟨S', tf', f1, f2, f3, f4⟩ := e2.out
                  exact ⟨pa, pn, pc, e1, ⟨S', tf', f1, f2, f3, f4, row_sh (hA.nu q) (row_nu hro q) e3⟩, kp_sm2 (kwr.andNu q) HA.out.2.2.2.1 HA.out.2.2.2.2.1 e3⟩
                have HTG := hide (And.intro htg (And.intro hA.ris hA.m64))
                have hleB : decide (slo ≤ shi) = false := decide_eq_false hle
                clear hle
                have c0 := m0
                have c1 := m1
                clear hro hA hB htg HJ hj m0 m1
                go_wp2_with fail
                go_region_held3 (fun W => W.cell? ⟨mb', moff + j * 3, none⟩ = some (.int .u64 slo) ∧ W.cell? ⟨mb', moff + j * 3 + 1, none⟩ = some (.int .u64 shi)) (first | (refine HMC.out _ ?_; first | assumption | (apply Kp.drew; assumption); done) | (refine HMC.out _ (kwr.andNu ?_); repeat (first | assumption | exact Kp.refl _ _ | apply Kp.drew)))
                  (first | (go_at_call 63; refine (CU _ ?_).mono ?_; (repeat (first | assumption | exact Kp.refl _ _ | apply Kp.drew)); rintro e w3 ⟨pa, pn, pc, rfl, H3, k3⟩))
                obtain ⟨S', tf', hwp, hSm, a3, b3, ro3⟩ := H3.out
                have LA : Calls Try.prog 64 #[.pointer (some ⟨sb, 0, none⟩), .slice pa pn pc] w3 fun e w' => e = .returned (.int .i64 0) ∧ Hid (∃ tg', w'.ownsRow w.heap.size 3 1 (.slice ao n ac) n (lst ls) ∧ Sh w' sa ma (i : Int) tf' (cutM slo shi M1) ∧ Sh w' sb mb (i : Int) tg' (layM S' M2) ∧ Tg Ma (cutM slo shi M1) (layM S' M2)) ∧ Kp Nu w w' := by
                  obtain ⟨htg, rf, h64⟩ := HTG.out
                  refine (lay_in a3 b3 (fun e => HA.out.2.2.2.2.2.2.2.1 e.symm) (fun e => HA.out.2.2.2.2.2.2.2.2 e.symm) hwp hSm rf h64 htg HX.out.2.2.2).mono ?_
                  rintro e w' ⟨e1, e2, e3⟩
                  obtain ⟨tg', f1, f2, f3⟩ := e2.out
                  exact ⟨e1, ⟨tg', row_sh b3 ro3 e3, f1, f2, f3⟩, kp_sm2 k3 HA.out.2.2.2.2.2.1 HA.out.2.2.2.2.2.2.1 e3⟩
                clear CU H3 hwp hSm a3 b3 ro3 HTG c0 c1
                go_wp2_with (go_at_call 64; refine LA.mono ?_; rintro e w5 ⟨rfl, H5, k5⟩)
                obtain ⟨tg', ro6, a6, b6, g6⟩ := H5.out
                obtain ⟨c0, c1⟩ := HMC.out _ k5
                have kw6 := hide k5
                have HF : Hid (∀ W, Kp Nu w5 W → ∃ ta Mx tb Mb, W.ownsRow w.heap.size 3 1 (.slice ao n ac) n (lst ls) ∧ Sh W sa ma (i : Int) ta Mx ∧ Sh W sb mb (i : Int) tb Mb ∧ Tg Ma Mx Mb ∧ Kp Nu w W) := hide (fun W kz => by
                  have kw6 := k5
                  exact ⟨tf', _, tg', _, row_nu ro6 kz, a6.nu kz, b6.nu kz, g6, kw6.andNu kz⟩)
                have CN : ∀ W, Kp Nu w5 W → Calls Try.prog 54 #[.pointer (some ⟨sa, 0, none⟩), .int .u64 slo, .int .u64 shi] W fun e w' => e = .returned (.int .i64 0) ∧ Kp Nu w5 w' := fun W q => by
                  refine (count_in (a6.nu q)).mono ?_
                  rintro e w' ⟨e1, e2⟩
                  exact ⟨e1, q.andNu e2⟩
                have kz0 := Kp.refl Nu w5
                clear LA H5 ro6 a6 b6 g6 k3
                go_quiet (fail)
                have kz1 := kpN kz0 nq
                clear c0 c1
                obtain ⟨c0, c1⟩ := HMC.out _ (kw6.out.andNu kz1)
                go_wp2_with fail
                go_region_held3 (fun W => W.cell? ⟨mb', moff + j * 3, none⟩ = some (.int .u64 slo) ∧ W.cell? ⟨mb', moff + j * 3 + 1, none⟩ = some (.int .u64 shi)) (first | (refine HMC.out _ (kw6.out.andNu ?_); repeat (first | assumption | exact kpN kz0 _ | exact Kp.refl _ _ | apply Kp.drew)))
                  (first | (go_at_call 54; refine (CN _ ?_).mono ?_; (repeat (first | assumption | exact kpN kz0 _ | exact Kp.refl _ _ | apply Kp.drew)); rintro e w7 ⟨rfl, k7⟩))
                have HF3 := hide (HF.out _ k7)
                clear HF CN c0 c1 mixed
                go_wp2
                exact ⟨⟨j + 1, by rw [HJW.out.2], HJW.out.1, HF3⟩, lt_mi HJW.out.2 HJW.out.1⟩
            | true =>
              by_cases hle : slo ≤ shi
              · have CU : ∀ W, Kp Nu wr W → Calls Try.prog 63 #[.pointer (some ⟨sb, 0, none⟩), .int .u64 slo, .int .u64 shi] W fun e w' => ∃ pa pn pc, e = .returned (.tuple #[.slice pa pn pc, .int .i64 0]) ∧ Hid (∃ S tf', Wp w' (.slice pa pn pc) S ∧ S.map kv = rg slo shi M2 ∧ Sh w' sb mb (i : Int) tf' (cutM slo shi M2) ∧ Sh w' sa ma (i : Int) t1 M1 ∧ w'.ownsRow w.heap.size 3 1 (.slice ao n ac) n (lst ls)) ∧ Kp Nu w w' := fun W q => by
                  refine (cut_in (hB.nu q) (hA.nu q) (fun e => HA.out.2.2.2.2.2.2.2.1 e.symm) (fun e => HA.out.2.2.2.2.2.2.2.2 e.symm) slo shi 0 (if_pos hle).symm).mono ?_
                  rintro e w' ⟨pa, pn, pc, e1, e2, e3⟩
                  obtain ⟨S', tf', f1, f2, f3, f4⟩ := e2.out
                  exact ⟨pa, pn, pc, e1, ⟨S', tf', f1, f2, f3, f4, row_sh (hB.nu q) (row_nu hro q) e3⟩, kp_sm2 (kwr.andNu q) HA.out.2.2.2.2.2.1 HA.out.2.2.2.2.2.2.1 e3⟩
                have HTG := hide (And.intro htg (And.intro hB.ris hB.m64))


                have c0 := m0
                have c1 := m1
                clear hro hA hB htg HJ hj m0 m1
                go_wp2_with fail
                go_region_held3 (fun W => W.cell? ⟨mb', moff + j * 3, none⟩ = some (.int .u64 slo) ∧ W.cell? ⟨mb', moff + j * 3 + 1, none⟩ = some (.int .u64 shi)) (first | (refine HMC.out _ ?_; first | assumption | (apply Kp.drew; assumption); done) | (refine HMC.out _ (kwr.andNu ?_); repeat (first | assumption | exact Kp.refl _ _ | apply Kp.drew)))
                  (first | (go_at_call 63; refine (CU _ ?_).mono ?_; (repeat (first | assumption | exact Kp.refl _ _ | apply Kp.drew)); rintro e w3 ⟨pa, pn, pc, rfl, H3, k3⟩))
                obtain ⟨S', tf', hwp, hSm, a3, b3, ro3⟩ := H3.out
                have LA : Calls Try.prog 64 #[.pointer (some ⟨sa, 0, none⟩), .slice pa pn pc] w3 fun e w' => e = .returned (.int .i64 0) ∧ Hid (∃ tg', w'.ownsRow w.heap.size 3 1 (.slice ao n ac) n (lst ls) ∧ Sh w' sb mb (i : Int) tf' (cutM slo shi M2) ∧ Sh w' sa ma (i : Int) tg' (layM S' M1) ∧ Tg Ma (cutM slo shi M2) (layM S' M1)) ∧ Kp Nu w w' := by
                  obtain ⟨htg, rf, h64⟩ := HTG.out
                  refine (lay_in a3 b3 HA.out.2.2.2.2.2.2.2.1 HA.out.2.2.2.2.2.2.2.2 hwp hSm rf h64 htg.swap HX.out.2.2.2).mono ?_
                  rintro e w' ⟨e1, e2, e3⟩
                  obtain ⟨tg', f1, f2, f3⟩ := e2.out
                  exact ⟨e1, ⟨tg', row_sh b3 ro3 e3, f1, f2, f3⟩, kp_sm2 k3 HA.out.2.2.2.1 HA.out.2.2.2.2.1 e3⟩
                clear CU H3 hwp hSm a3 b3 ro3 HTG c0 c1
                go_wp2_with (go_at_call 64; refine LA.mono ?_; rintro e w5 ⟨rfl, H5, k5⟩)
                obtain ⟨tg', ro6, a6, b6, g6⟩ := H5.out
                obtain ⟨c0, c1⟩ := HMC.out _ k5
                have kw6 := hide k5
                have HF : Hid (∀ W, Kp Nu w5 W → ∃ ta Mx tb Mb, W.ownsRow w.heap.size 3 1 (.slice ao n ac) n (lst ls) ∧ Sh W sa ma (i : Int) ta Mx ∧ Sh W sb mb (i : Int) tb Mb ∧ Tg Ma Mx Mb ∧ Kp Nu w W) := hide (fun W kz => by
                  have kw6 := k5
                  exact ⟨tg', _, tf', _, row_nu ro6 kz, b6.nu kz, a6.nu kz, g6.swap, kw6.andNu kz⟩)
                have CN : ∀ W, Kp Nu w5 W → Calls Try.prog 54 #[.pointer (some ⟨sb, 0, none⟩), .int .u64 slo, .int .u64 shi] W fun e w' => e = .returned (.int .i64 0) ∧ Kp Nu w5 w' := fun W q => by
                  refine (count_in (a6.nu q)).mono ?_
                  rintro e w' ⟨e1, e2⟩
                  exact ⟨e1, q.andNu e2⟩
                have kz0 := Kp.refl Nu w5
                clear LA H5 ro6 a6 b6 g6 k3
                go_quiet (fail)
                have kz1 := kpN kz0 nq
                clear c0 c1
                obtain ⟨c0, c1⟩ := HMC.out _ (kw6.out.andNu kz1)
                go_wp2_with fail
                go_region_held3 (fun W => W.cell? ⟨mb', moff + j * 3, none⟩ = some (.int .u64 slo) ∧ W.cell? ⟨mb', moff + j * 3 + 1, none⟩ = some (.int .u64 shi)) (first | (refine HMC.out _ (kw6.out.andNu ?_); repeat (first | assumption | exact kpN kz0 _ | exact Kp.refl _ _ | apply Kp.drew)))
                  (first | (go_at_call 54; refine (CN _ ?_).mono ?_; (repeat (first | assumption | exact kpN kz0 _ | exact Kp.refl _ _ | apply Kp.drew)); rintro e w7 ⟨rfl, k7⟩))
                have HF3 := hide (HF.out _ k7)
                clear HF CN c0 c1 mixed
                go_wp2
                exact ⟨⟨j + 1, by rw [HJW.out.2], HJW.out.1, HF3⟩, lt_mi HJW.out.2 HJW.out.1⟩
              · have CU : ∀ W, Kp Nu wr W → Calls Try.prog 63 #[.pointer (some ⟨sb, 0, none⟩), .int .u64 slo, .int .u64 shi] W fun e w' => ∃ pa pn pc, e = .returned (.tuple #[.slice pa pn pc, .int .i64 74]) ∧ Hid (∃ S tf', Wp w' (.slice pa pn pc) S ∧ S.map kv = rg slo shi M2 ∧ Sh w' sb mb (i : Int) tf' (cutM slo shi M2) ∧ Sh w' sa ma (i : Int) t1 M1 ∧ w'.ownsRow w.heap.size 3 1 (.slice ao n ac) n (lst ls)) ∧ Kp Nu w w' := fun W q => by
                  refine (cut_in (hB.nu q) (hA.nu q) (fun e => HA.out.2.2.2.2.2.2.2.1 e.symm) (fun e => HA.out.2.2.2.2.2.2.2.2 e.symm) slo shi 74 (if_neg hle).symm).mono ?_
                  rintro e w' ⟨pa, pn, pc, e1, e2, e3⟩
                  obtain ⟨S', tf', f1, f2, f3, f4⟩ := e2.out
                  exact ⟨pa, pn, pc, e1, ⟨S', tf', f1, f2, f3, f4, row_sh (hB.nu q) (row_nu hro q) e3⟩, kp_sm2 (kwr.andNu q) HA.out.2.2.2.2.2.1 HA.out.2.2.2.2.2.2.1 e3⟩
                have HTG := hide (And.intro htg (And.intro hB.ris hB.m64))
                have hleB : decide (slo ≤ shi) = false := decide_eq_false hle
                clear hle
                have c0 := m0
                have c1 := m1
                clear hro hA hB htg HJ hj m0 m1
                go_wp2_with fail
                go_region_held3 (fun W => W.cell? ⟨mb', moff + j * 3, none⟩ = some (.int .u64 slo) ∧ W.cell? ⟨mb', moff + j * 3 + 1, none⟩ = some (.int .u64 shi)) (first | (refine HMC.out _ ?_; first | assumption | (apply Kp.drew; assumption); done) | (refine HMC.out _ (kwr.andNu ?_); repeat (first | assumption | exact Kp.refl _ _ | apply Kp.drew)))
                  (first | (go_at_call 63; refine (CU _ ?_).mono ?_; (repeat (first | assumption | exact Kp.refl _ _ | apply Kp.drew)); rintro e w3 ⟨pa, pn, pc, rfl, H3, k3⟩))
                obtain ⟨S', tf', hwp, hSm, a3, b3, ro3⟩ := H3.out
                have LA : Calls Try.prog 64 #[.pointer (some ⟨sa, 0, none⟩), .slice pa pn pc] w3 fun e w' => e = .returned (.int .i64 0) ∧ Hid (∃ tg', w'.ownsRow w.heap.size 3 1 (.slice ao n ac) n (lst ls) ∧ Sh w' sb mb (i : Int) tf' (cutM slo shi M2) ∧ Sh w' sa ma (i : Int) tg' (layM S' M1) ∧ Tg Ma (cutM slo shi M2) (layM S' M1)) ∧ Kp Nu w w' := by
                  obtain ⟨htg, rf, h64⟩ := HTG.out
                  refine (lay_in a3 b3 HA.out.2.2.2.2.2.2.2.1 HA.out.2.2.2.2.2.2.2.2 hwp hSm rf h64 htg.swap HX.out.2.2.2).mono ?_
                  rintro e w' ⟨e1, e2, e3⟩
                  obtain ⟨tg', f1, f2, f3⟩ := e2.out
                  exact ⟨e1, ⟨tg', row_sh b3 ro3 e3, f1, f2, f3⟩, kp_sm2 k3 HA.out.2.2.2.1 HA.out.2.2.2.2.1 e3⟩
                clear CU H3 hwp hSm a3 b3 ro3 HTG c0 c1
                go_wp2_with (go_at_call 64; refine LA.mono ?_; rintro e w5 ⟨rfl, H5, k5⟩)
                obtain ⟨tg', ro6, a6, b6, g6⟩ := H5.out
                obtain ⟨c0, c1⟩ := HMC.out _ k5
                have kw6 := hide k5
                have HF : Hid (∀ W, Kp Nu w5 W → ∃ ta Mx tb Mb, W.ownsRow w.heap.size 3 1 (.slice ao n ac) n (lst ls) ∧ Sh W sa ma (i : Int) ta Mx ∧ Sh W sb mb (i : Int) tb Mb ∧ Tg Ma Mx Mb ∧ Kp Nu w W) := hide (fun W kz => by
                  have kw6 := k5
                  exact ⟨tg', _, tf', _, row_nu ro6 kz, b6.nu kz, a6.nu kz, g6.swap, kw6.andNu kz⟩)
                have CN : ∀ W, Kp Nu w5 W → Calls Try.prog 54 #[.pointer (some ⟨sb, 0, none⟩), .int .u64 slo, .int .u64 shi] W fun e w' => e = .returned (.int .i64 0) ∧ Kp Nu w5 w' := fun W q => by
                  refine (count_in (a6.nu q)).mono ?_
                  rintro e w' ⟨e1, e2⟩
                  exact ⟨e1, q.andNu e2⟩
                have kz0 := Kp.refl Nu w5
                clear LA H5 ro6 a6 b6 g6 k3
                go_quiet (fail)
                have kz1 := kpN kz0 nq
                clear c0 c1
                obtain ⟨c0, c1⟩ := HMC.out _ (kw6.out.andNu kz1)
                go_wp2_with fail
                go_region_held3 (fun W => W.cell? ⟨mb', moff + j * 3, none⟩ = some (.int .u64 slo) ∧ W.cell? ⟨mb', moff + j * 3 + 1, none⟩ = some (.int .u64 shi)) (first | (refine HMC.out _ (kw6.out.andNu ?_); repeat (first | assumption | exact kpN kz0 _ | exact Kp.refl _ _ | apply Kp.drew)))
                  (first | (go_at_call 54; refine (CN _ ?_).mono ?_; (repeat (first | assumption | exact kpN kz0 _ | exact Kp.refl _ _ | apply Kp.drew)); rintro e w7 ⟨rfl, k7⟩))
                have HF3 := hide (HF.out _ k7)
                clear HF CN c0 c1 mixed
                go_wp2
                exact ⟨⟨j + 1, by rw [HJW.out.2], HJW.out.1, HF3⟩, lt_mi HJW.out.2 HJW.out.1⟩
          · obtain ⟨hn, hlo, hrisM, hlm⟩ := HX.out
            have HX3 : Hid (∀ W, Kp Nu wr W → W.ownsRow w.heap.size 3 1 (.slice ao n ac) n (lst ls) ∧ Sh W sa ma (i : Int) t1 M1 ∧ Sh W sb mb (i : Int) t2 M2 ∧ Kp Nu w W) := hide (fun W q => ⟨row_nu hro q, hA.nu q, hB.nu q, kwr.andNu q⟩)
            have HX4 : Hid (Tg Ma M1 M2 ∧ sumB M1 = 3 * M1.length ∧ sumB M2 = 3 * M2.length ∧ M1.length + M2.length = n ∧ n ≤ 30000) := by
              refine ⟨htg, (htg.va hlo.v3 hrisM hA.ris).sum, (htg.swap.va hlo.v3 hrisM hB.ris).sum, ?_, ?_⟩
              · rw [htg.ln, hn, hlo.ln]
              · have := hlo.le; have := HNB.out; omega
            have HLO := hide hlo
            have hnl : ¬ (j : Int) < (Q : Int) := by omega
            clear hro hA hB htg HJ hj hjQ kwr hn hlo hrisM hlm
            go_wp2_with fail
            clear hnl
            obtain ⟨wz, ewz⟩ : ∃ wz : World, wz = wr := ⟨_, rfl⟩
            subst ewz
            go_loopw [20] (fun it wr => ∃ q : Nat, it = .int .i64 (q : Int) ∧ q ≤ n ∧ Hid (Kp Nu wz wr)) (fun it _ => n - (intOf it).toNat)
            case atStart => exact ⟨0, rfl, Nat.zero_le _, Kp.refl _ _⟩
            case round =>
              obtain ⟨q, rfl, hq, HQ⟩ := hrel
              obtain ⟨hro, hA, hB, kw⟩ := HX3.out wr HQ.out
              by_cases hqn : q < n
              · obtain ⟨l, hl⟩ : ∃ l, ls[q]? = some l := ⟨_, List.getElem?_eq_getElem (by have := HX.out.1; omega)⟩
                obtain ⟨r, rc, er, _, _, _, d0⟩ := row_at (i := q) (u := .int .i64 (l : Int)) hro (by have := HX.out.1; simp [lst]; omega) (by simp [lst, hl])
                obtain ⟨h1, k, hk, h3, h4⟩ := HLO.out.at_ l (List.mem_of_getElem? hl)
                obtain ⟨b, off, eb, d1, hk0, hk1⟩ := HS.out wr kw l k hk
                have HSC : Hid (∀ W, Kp Nu wr W → W.cell? ⟨r, q, none⟩ = some (.int .i64 (l : Int)) ∧ W.cell? ⟨b, off + l, none⟩ = some (.int .u64 k)) := hide (fun W p => ⟨cell_nu d0 p, cell_nu d1 p⟩)
                cases er
                subst eb
                have hone := HX4.out.1.one HLO.out (List.mem_of_getElem? hl) hk
                have GA := get46 hA k
                have GB : ∀ W, Kp Nu wr W → Calls Try.prog 46 #[.pointer (some ⟨sb, 0, none⟩), .int .u64 k] W fun e w' => ∃ v : Sv, e = .returned (.tuple #[.slice v.a v.n v.c, .bool (hs k M2)]) ∧ Hid (Rd w' (.slice v.a v.n v.c) (gtM k M2)) ∧ Kp Nu W w' := fun W p => by
                  refine (get46 (hB.nu p) k).mono ?_
                  rintro e w' ⟨v, e1, e2, e3⟩
                  exact ⟨v, e1, Rd.of_own e2, e3⟩
                have hiN : i ≤ 30000 := by have := HNB.out; omega
                have VA : ∀ W, Kp Nu wr W → Calls Try.prog 62 #[.slice (some ⟨b, off, none⟩) i cap, .int .i64 (l : Int)] W fun e w' => ∃ g, e = .returned (.slice (some ⟨g, 0, none⟩) 3 3) ∧ Rd w' (.slice (some ⟨g, 0, none⟩) 3 3) (vl l k) ∧ Kp Nu W w' := fun W p => by
                  refine (value62 W b off i cap l k (HSC.out W p).2 h1 hiN hk0 hk1).mono ?_
                  rintro e w' ⟨g, e1, e3, e4⟩
                  exact ⟨g, e1, Rd.of_own e3, e4⟩
                have hqI : (q : Int) < (n : Int) := by omega
                have hq0 : (0 : Int) ≤ (q : Int) := by omega
                have hlI : (l : Int) < (i : Int) := by omega
                have hl0 : (0 : Int) ≤ (l : Int) := by omega
                have hwq : wrap64 ((q : Int) + 1) = ((q + 1 : Nat) : Int) := by have := HX4.out.2.2.2.2; unfold wrap64; omega
                have HW := hide (And.intro hqn hwq)
                have kz0 := Kp.refl Nu wr
                have HV := hide (vl_byt l k)
                have ez1 : bstr (vl l k) ++ bstr [] = bstr (vl l k) := ByteArray.append_empty
                have ez2 : bstr [] ++ bstr (vl l k) = bstr (vl l k) := ByteArray.empty_append
                have HZ1 : (bstr (vl l k)).size + (bstr []).size ≤ 9223372036854775807 := by simp [bstr, vl, ByteArray.size]
                have HZ2 : ((bstr (vl l k) ++ bstr []).toList == (bstr (vl l k)).toList) = true ∧ ((bstr [] ++ bstr (vl l k)).toList == (bstr (vl l k)).toList) = true := by rw [ez1, ez2]; simp
                have HZ3 : ((bstr (vl l k) ++ bstr []).toList != (bstr (vl l k)).toList) = false ∧ ((bstr [] ++ bstr (vl l k)).toList != (bstr (vl l k)).toList) = false := by rw [ez1, ez2]; simp
                clear ez1 ez2
                generalize vl l k = vv at *
                clear hro hA hB kw hl h1 hk h3 h4 hk0 hk1 hiN hqn hwq hq mixed HX3 HX4 HLO HX HT HS HN HNB hbB HA
                rcases hone with ⟨o1, o2, o3, o4⟩ | ⟨o1, o2, o3, o4⟩
                ·
                  rw [o1, o3] at GA
                  rw [o2, o4] at GB
                  clear o1 o2 o3 o4
                  go_wp2_with (first
                    | (go_at_call 46; refine GA.mono ?_; rintro e w3 ⟨⟨pa, pn, pc⟩, rfl, v3, k3⟩; have hv3 := hide (Rd.of_own v3); obtain ⟨e0, e1⟩ := HSC.out _ k3; clear GA v3 d0 d1)
                    | (go_at_call 46; refine (GB _ k3).mono ?_; rintro e w4 ⟨⟨ra, rn, rcc⟩, rfl, hv4, k34⟩; have k4 := k3.andNu k34; clear GB e0 e1))
                  have mixed : Try.prog.follows .mixedOrders = true := by kernel_rfl
                  have hnil : Byt [] := fun z hz => by simp at hz
                  have HCV : Hid (∀ W, Kp Nu w4 W → W.cell? ⟨r, q, none⟩ = some (.int .i64 (l : Int)) ∧ (convert 74 9 (.slice pa pn pc)).run Try.prog W = .ok (.string (bstr vv)) W ∧ (convert 74 9 (.slice ra rn rcc)).run Try.prog W = .ok (.string (bstr [])) W) := hide (fun W p => ⟨(HSC.out _ (k4.andNu p)).1, conv_rd ((hv3.out.nu k34).nu p) HV.out, conv_rd (hv4.out.nu p) hnil⟩)
                  have VB : ∀ W, Kp Nu w4 W → Calls Try.prog 62 #[.slice (some ⟨b, off, none⟩) i cap, .int .i64 (l : Int)] W fun e w' => ∃ g, e = .returned (.slice (some ⟨g, 0, none⟩) 3 3) ∧ Hid (Rd w' (.slice (some ⟨g, 0, none⟩) 3 3) vv) ∧ Kp Nu w4 w' := fun W p => by
                    refine (VA W (k4.andNu p)).mono ?_
                    rintro e w' ⟨g, e1, e2, e3⟩
                    exact ⟨g, e1, e2, p.andNu e3⟩
                  have kz4 := Kp.refl Nu w4
                  obtain ⟨c0, c1, c2⟩ := HCV.out _ kz4
                  have hsz : ¬ (9223372036854775807 < (bstr vv).size + (bstr []).size) := by omega
                  have y1 : ((bstr vv ++ bstr []).toList == (bstr vv).toList) = true := HZ2.1
                  have y2 : ((bstr vv ++ bstr []).toList != (bstr vv).toList) = false := HZ3.1
                  clear VA HZ1 HZ2 HZ3
                  refine wp_region_held_drew (S := (fun W => W.cell? ⟨r, q, none⟩ = some (.int .i64 (l : Int)) ∧ (convert 74 9 (.slice pa pn pc)).run Try.prog W = .ok (.string (bstr vv)) W ∧ (convert 74 9 (.slice ra rn rcc)).run Try.prog W = .ok (.string (bstr [])) W)) (by kernel_rfl) (HCV.out _ (Kp.drew kz4)) (fun hHeld => ?_)
                  refine wpAnyH_take (i := 0) (oi := ?oi0a) (v := ?v0a) ?ho0a (by kernel_rfl) (by kernel_rfl) (by kernel_rfl) ?hq0a ?hy0a (by assumption) ?_
                  case ho0a => (simp only [List.getElem?_toArray, List.getElem?_cons_succ, List.getElem?_cons_zero]; rfl)
                  case hq0a => exact fun _ _ _ h => h
                  case hy0a => (refine Or.inl ⟨by rfl, ?_⟩; intro w hSw; obtain ⟨g1, g2, g3⟩ := hSw; go_simp; try with_reducible rfl)
                  try simp only [Act.put, List.setIfInBounds_toArray, List.set_cons_zero, List.set_cons_succ]
                  refine wpAnyH_take (i := 1) (oi := ?oi1a) (v := ?v1a) ?ho1a (by kernel_rfl) (by kernel_rfl) (by kernel_rfl) ?hq1a ?hy1a (by assumption) ?_
                  case ho1a => (simp only [List.getElem?_toArray, List.getElem?_cons_succ, List.getElem?_cons_zero]; rfl)
                  case hq1a => exact fun _ _ _ h => h
                  case hy1a => (refine Or.inl ⟨by rfl, ?_⟩; intro w hSw; obtain ⟨g1, g2, g3⟩ := hSw; go_simp; try with_reducible rfl)
                  try simp only [Act.put, List.setIfInBounds_toArray, List.set_cons_zero, List.set_cons_succ]
                  refine wpAnyH_take (i := 2) (oi := ?oi2a) (v := ?v2a) ?ho2a (by kernel_rfl) (by kernel_rfl) (by kernel_rfl) ?hq2a ?hy2a (by assumption) ?_
                  case ho2a => (simp only [List.getElem?_toArray, List.getElem?_cons_succ, List.getElem?_cons_zero]; rfl)
                  case hq2a => exact fun _ _ _ h => h
                  case hy2a => (refine Or.inl ⟨by rfl, ?_⟩; intro w hSw; obtain ⟨g1, g2, g3⟩ := hSw; go_simp; try with_reducible rfl)
                  try simp only [Act.put, List.setIfInBounds_toArray, List.set_cons_zero, List.set_cons_succ]
                  refine wpAnyH_take (i := 3) (oi := ?oi3a) (v := ?v3a) ?ho3a (by kernel_rfl) (by kernel_rfl) (by kernel_rfl) ?hq3a ?hy3a (by assumption) ?_
                  case ho3a => (simp only [List.getElem?_toArray, List.getElem?_cons_succ, List.getElem?_cons_zero]; rfl)
                  case hq3a => exact fun _ _ _ h => h
                  case hy3a => (refine Or.inl ⟨by rfl, ?_⟩; intro w hSw; obtain ⟨g1, g2, g3⟩ := hSw; go_simp; try with_reducible rfl)
                  try simp only [Act.put, List.setIfInBounds_toArray, List.set_cons_zero, List.set_cons_succ]
                  refine wpAnyH_take (i := 4) (oi := ?oi4a) (v := ?v4a) ?ho4a (by kernel_rfl) (by kernel_rfl) (by kernel_rfl) ?hq4a ?hy4a (by assumption) ?_
                  case ho4a => (simp only [List.getElem?_toArray, List.getElem?_cons_succ, List.getElem?_cons_zero]; rfl)
                  case hq4a => exact fun _ _ _ h => h
                  case hy4a => (refine Or.inl ⟨by rfl, ?_⟩; intro w hSw; obtain ⟨g1, g2, g3⟩ := hSw; go_simp; try with_reducible rfl)
                  try simp only [Act.put, List.setIfInBounds_toArray, List.set_cons_zero, List.set_cons_succ]
                  refine wpAnyH_take (i := 5) (oi := ?oi5a) (v := ?v5a) ?ho5a (by kernel_rfl) (by kernel_rfl) (by kernel_rfl) ?hq5a ?hy5a (by assumption) ?_
                  case ho5a => (simp only [List.getElem?_toArray, List.getElem?_cons_succ, List.getElem?_cons_zero]; rfl)
                  case hq5a => exact fun _ _ _ h => h
                  case hy5a => (refine Or.inl ⟨by rfl, ?_⟩; intro w hSw; obtain ⟨g1, g2, g3⟩ := hSw; go_simp; try with_reducible rfl)
                  try simp only [Act.put, List.setIfInBounds_toArray, List.set_cons_zero, List.set_cons_succ]
                  refine wpAnyH_take (i := 6) (oi := ?oi6a) (v := ?v6a) ?ho6a (by kernel_rfl) (by kernel_rfl) (by kernel_rfl) ?hq6a ?hy6a (by assumption) ?_
                  case ho6a => (simp only [List.getElem?_toArray, List.getElem?_cons_succ, List.getElem?_cons_zero]; rfl)
                  case hq6a => exact fun _ _ _ h => h
                  case hy6a => (refine Or.inl ⟨by rfl, ?_⟩; intro w hSw; obtain ⟨g1, g2, g3⟩ := hSw; go_simp; try with_reducible rfl)
                  try simp only [Act.put, List.setIfInBounds_toArray, List.set_cons_zero, List.set_cons_succ]
                  refine wpAnyH_take (i := 7) (oi := ?oi7a) (v := ?v7a) ?ho7a (by kernel_rfl) (by kernel_rfl) (by kernel_rfl) ?hq7a ?hy7a (by assumption) ?_
                  case ho7a => (simp only [List.getElem?_toArray, List.getElem?_cons_succ, List.getElem?_cons_zero]; rfl)
                  case hq7a => exact fun _ _ _ h => h
                  case hy7a => (refine Or.inl ⟨by rfl, ?_⟩; intro w hSw; obtain ⟨g1, g2, g3⟩ := hSw; go_simp; try with_reducible rfl)
                  try simp only [Act.put, List.setIfInBounds_toArray, List.set_cons_zero, List.set_cons_succ]
                  refine wpAnyH_take (i := 8) (oi := ?oi8a) (v := ?v8a) ?ho8a (by kernel_rfl) (by kernel_rfl) (by kernel_rfl) ?hq8a ?hy8a (by assumption) ?_
                  case ho8a => (simp only [List.getElem?_toArray, List.getElem?_cons_succ, List.getElem?_cons_zero]; rfl)
                  case hq8a => exact fun _ _ _ h => h
                  case hy8a => (refine Or.inl ⟨by rfl, ?_⟩; intro w hSw; obtain ⟨g1, g2, g3⟩ := hSw; go_simp; try with_reducible rfl)
                  try simp only [Act.put, List.setIfInBounds_toArray, List.set_cons_zero, List.set_cons_succ]
                  refine wpAnyH_take (i := 9) (oi := ?oi9a) (v := ?v9a) ?ho9a (by kernel_rfl) (by kernel_rfl) (by kernel_rfl) ?hq9a ?hy9a (by assumption) ?_
                  case ho9a => (simp only [List.getElem?_toArray, List.getElem?_cons_succ, List.getElem?_cons_zero]; rfl)
                  case hq9a => exact fun _ _ _ h => h
                  case hy9a => (refine Or.inl ⟨by rfl, ?_⟩; intro w hSw; obtain ⟨g1, g2, g3⟩ := hSw; go_simp; try with_reducible rfl)
                  try simp only [Act.put, List.setIfInBounds_toArray, List.set_cons_zero, List.set_cons_succ]
                  refine wpAnyH_take (i := 10) (oi := ?oi10a) (v := ?v10a) ?ho10a (by kernel_rfl) (by kernel_rfl) (by kernel_rfl) ?hq10a ?hy10a (by assumption) ?_
                  case ho10a => (simp only [List.getElem?_toArray, List.getElem?_cons_succ, List.getElem?_cons_zero]; rfl)
                  case hq10a => exact fun _ _ _ h => h
                  case hy10a => (refine Or.inl ⟨by rfl, ?_⟩; intro w hSw; obtain ⟨g1, g2, g3⟩ := hSw; go_simp; try with_reducible rfl)
                  try simp only [Act.put, List.setIfInBounds_toArray, List.set_cons_zero, List.set_cons_succ]
                  refine wpAnyH_take (i := 11) (oi := ?oi11a) (v := ?v11a) ?ho11a (by kernel_rfl) (by kernel_rfl) (by kernel_rfl) ?hq11a ?hy11a (by assumption) ?_
                  case ho11a => (simp only [List.getElem?_toArray, List.getElem?_cons_succ, List.getElem?_cons_zero]; rfl)
                  case hq11a => exact fun _ _ _ h => h
                  case hy11a => (refine Or.inl ⟨by rfl, ?_⟩; intro w hSw; obtain ⟨g1, g2, g3⟩ := hSw; go_simp; try with_reducible rfl)
                  try simp only [Act.put, List.setIfInBounds_toArray, List.set_cons_zero, List.set_cons_succ]
                  refine wpAnyH_take (i := 12) (oi := ?oi12a) (v := ?v12a) ?ho12a (by kernel_rfl) (by kernel_rfl) (by kernel_rfl) ?hq12a ?hy12a (by assumption) ?_
                  case ho12a => (simp only [List.getElem?_toArray, List.getElem?_cons_succ, List.getElem?_cons_zero]; rfl)
                  case hq12a => exact fun _ _ _ h => h
                  case hy12a => (refine Or.inl ⟨by rfl, ?_⟩; intro w hSw; obtain ⟨g1, g2, g3⟩ := hSw; go_simp; try with_reducible rfl)
                  try simp only [Act.put, List.setIfInBounds_toArray, List.set_cons_zero, List.set_cons_succ]
                  refine wpAnyH_take (i := 13) (oi := ?oi13a) (v := ?v13a) ?ho13a (by kernel_rfl) (by kernel_rfl) (by kernel_rfl) ?hq13a ?hy13a (by assumption) ?_
                  case ho13a => (simp only [List.getElem?_toArray, List.getElem?_cons_succ, List.getElem?_cons_zero]; rfl)
                  case hq13a => exact fun _ _ _ h => h
                  case hy13a => (refine Or.inl ⟨by rfl, ?_⟩; intro w hSw; obtain ⟨g1, g2, g3⟩ := hSw; go_simp; try with_reducible rfl)
                  try simp only [Act.put, List.setIfInBounds_toArray, List.set_cons_zero, List.set_cons_succ]
                  refine wpAnyH_ready (rs := [14]) (by kernel_rfl) (by simp) ?_
                  refine AllReadyH.cons rfl (fun K hK => ?_) AllReadyH.nil
                  go_simp
                  go_at_call 62
                  refine (VB _ (Kp.drew kz4)).mono ?_
                  rintro e w6 ⟨g, rfl, hv6, k6⟩
                  go_wp2_with fail
                  refine hK.out _ _ (HCV.out _ k6) (fun hHeld2 => ?_)
                  clear hK K hHeld
                  have cv0 : (convert 74 9 (.slice (some ⟨g, 0, none⟩) 3 3)).run Try.prog w6 = .ok (.string (bstr vv)) w6 := conv_rd hv6.out HV.out
                  try simp only [Act.put, List.setIfInBounds_toArray, List.set_cons_zero, List.set_cons_succ]
                  refine wpAnyH_ready (rs := [15]) (by kernel_rfl) (by simp) ?_
                  refine AllReadyH.cons rfl (fun K hK => ?_) AllReadyH.nil
                  go_simp
                  refine hK.out _ _ (HCV.out _ k6) (fun hHeld3 => ?_)
                  clear hK K
                  try simp only [Act.put, List.setIfInBounds_toArray, List.set_cons_zero, List.set_cons_succ]
                  refine wpAnyH_take (i := 16) (oi := ?oi16a) (v := ?v16a) ?ho16a (by kernel_rfl) (by kernel_rfl) (by kernel_rfl) ?hq16a ?hy16a (by assumption) ?_
                  case ho16a => (simp only [List.getElem?_toArray, List.getElem?_cons_succ, List.getElem?_cons_zero]; rfl)
                  case hq16a => exact fun _ _ _ h => h
                  case hy16a => (refine Or.inl ⟨by rfl, ?_⟩; intro w hSw; obtain ⟨g1, g2, g3⟩ := hSw; go_simp; try with_reducible rfl)
                  try simp only [Act.put, List.setIfInBounds_toArray, List.set_cons_zero, List.set_cons_succ]
                  refine wpAnyH_take (i := 17) (oi := ?oi17a) (v := ?v17a) ?ho17a (by kernel_rfl) (by kernel_rfl) (by kernel_rfl) ?hq17a ?hy17a (by assumption) ?_
                  case ho17a => (simp only [List.getElem?_toArray, List.getElem?_cons_succ, List.getElem?_cons_zero]; rfl)
                  case hq17a => exact fun _ _ _ h => h
                  case hy17a => (refine Or.inl ⟨by rfl, ?_⟩; intro w hSw; obtain ⟨g1, g2, g3⟩ := hSw; go_simp; try with_reducible rfl)
                  try simp only [Act.put, List.setIfInBounds_toArray, List.set_cons_zero, List.set_cons_succ]
                  refine wpAnyH_done (by kernel_rfl) ?_ _
                  have hk7 := hide (HQ.out.andNu (k4.andNu k6))
                  clear c0 c1 c2 y1 y2 hsz cv0 hHeld2 hHeld3 mixed hv6 HCV VB
                  go_wp2
                  exact ⟨⟨q + 1, by rw [HW.out.2], HW.out.1, hk7⟩, lt_mi HW.out.2 HW.out.1⟩
                ·
                  rw [o1, o3] at GA
                  rw [o2, o4] at GB
                  clear o1 o2 o3 o4
                  go_wp2_with (first
                    | (go_at_call 46; refine GA.mono ?_; rintro e w3 ⟨⟨pa, pn, pc⟩, rfl, v3, k3⟩; have hv3 := hide (Rd.of_own v3); obtain ⟨e0, e1⟩ := HSC.out _ k3; clear GA v3 d0 d1)
                    | (go_at_call 46; refine (GB _ k3).mono ?_; rintro e w4 ⟨⟨ra, rn, rcc⟩, rfl, hv4, k34⟩; have k4 := k3.andNu k34; clear GB e0 e1))
                  have mixed : Try.prog.follows .mixedOrders = true := by kernel_rfl
                  have hnil : Byt [] := fun z hz => by simp at hz
                  have HCV : Hid (∀ W, Kp Nu w4 W → W.cell? ⟨r, q, none⟩ = some (.int .i64 (l : Int)) ∧ (convert 74 9 (.slice pa pn pc)).run Try.prog W = .ok (.string (bstr [])) W ∧ (convert 74 9 (.slice ra rn rcc)).run Try.prog W = .ok (.string (bstr vv)) W) := hide (fun W p => ⟨(HSC.out _ (k4.andNu p)).1, conv_rd ((hv3.out.nu k34).nu p) hnil, conv_rd (hv4.out.nu p) HV.out⟩)
                  have VB : ∀ W, Kp Nu w4 W → Calls Try.prog 62 #[.slice (some ⟨b, off, none⟩) i cap, .int .i64 (l : Int)] W fun e w' => ∃ g, e = .returned (.slice (some ⟨g, 0, none⟩) 3 3) ∧ Hid (Rd w' (.slice (some ⟨g, 0, none⟩) 3 3) vv) ∧ Kp Nu w4 w' := fun W p => by
                    refine (VA W (k4.andNu p)).mono ?_
                    rintro e w' ⟨g, e1, e2, e3⟩
                    exact ⟨g, e1, e2, p.andNu e3⟩
                  have kz4 := Kp.refl Nu w4
                  obtain ⟨c0, c1, c2⟩ := HCV.out _ kz4
                  have hsz : ¬ (9223372036854775807 < (bstr []).size + (bstr vv).size) := by omega
                  have y1 : ((bstr [] ++ bstr vv).toList == (bstr vv).toList) = true := HZ2.2
                  have y2 : ((bstr [] ++ bstr vv).toList != (bstr vv).toList) = false := HZ3.2
                  clear VA HZ1 HZ2 HZ3
                  refine wp_region_held_drew (S := (fun W => W.cell? ⟨r, q, none⟩ = some (.int .i64 (l : Int)) ∧ (convert 74 9 (.slice pa pn pc)).run Try.prog W = .ok (.string (bstr [])) W ∧ (convert 74 9 (.slice ra rn rcc)).run Try.prog W = .ok (.string (bstr vv)) W)) (by kernel_rfl) (HCV.out _ (Kp.drew kz4)) (fun hHeld => ?_)
                  refine wpAnyH_take (i := 0) (oi := ?oi0b) (v := ?v0b) ?ho0b (by kernel_rfl) (by kernel_rfl) (by kernel_rfl) ?hq0b ?hy0b (by assumption) ?_
                  case ho0b => (simp only [List.getElem?_toArray, List.getElem?_cons_succ, List.getElem?_cons_zero]; rfl)
                  case hq0b => exact fun _ _ _ h => h
                  case hy0b => (refine Or.inl ⟨by rfl, ?_⟩; intro w hSw; obtain ⟨g1, g2, g3⟩ := hSw; go_simp; try with_reducible rfl)
                  try simp only [Act.put, List.setIfInBounds_toArray, List.set_cons_zero, List.set_cons_succ]
                  refine wpAnyH_take (i := 1) (oi := ?oi1b) (v := ?v1b) ?ho1b (by kernel_rfl) (by kernel_rfl) (by kernel_rfl) ?hq1b ?hy1b (by assumption) ?_
                  case ho1b => (simp only [List.getElem?_toArray, List.getElem?_cons_succ, List.getElem?_cons_zero]; rfl)
                  case hq1b => exact fun _ _ _ h => h
                  case hy1b => (refine Or.inl ⟨by rfl, ?_⟩; intro w hSw; obtain ⟨g1, g2, g3⟩ := hSw; go_simp; try with_reducible rfl)
                  try simp only [Act.put, List.setIfInBounds_toArray, List.set_cons_zero, List.set_cons_succ]
                  refine wpAnyH_take (i := 2) (oi := ?oi2b) (v := ?v2b) ?ho2b (by kernel_rfl) (by kernel_rfl) (by kernel_rfl) ?hq2b ?hy2b (by assumption) ?_
                  case ho2b => (simp only [List.getElem?_toArray, List.getElem?_cons_succ, List.getElem?_cons_zero]; rfl)
                  case hq2b => exact fun _ _ _ h => h
                  case hy2b => (refine Or.inl ⟨by rfl, ?_⟩; intro w hSw; obtain ⟨g1, g2, g3⟩ := hSw; go_simp; try with_reducible rfl)
                  try simp only [Act.put, List.setIfInBounds_toArray, List.set_cons_zero, List.set_cons_succ]
                  refine wpAnyH_take (i := 3) (oi := ?oi3b) (v := ?v3b) ?ho3b (by kernel_rfl) (by kernel_rfl) (by kernel_rfl) ?hq3b ?hy3b (by assumption) ?_
                  case ho3b => (simp only [List.getElem?_toArray, List.getElem?_cons_succ, List.getElem?_cons_zero]; rfl)
                  case hq3b => exact fun _ _ _ h => h
                  case hy3b => (refine Or.inl ⟨by rfl, ?_⟩; intro w hSw; obtain ⟨g1, g2, g3⟩ := hSw; go_simp; try with_reducible rfl)
                  try simp only [Act.put, List.setIfInBounds_toArray, List.set_cons_zero, List.set_cons_succ]
                  refine wpAnyH_take (i := 4) (oi := ?oi4b) (v := ?v4b) ?ho4b (by kernel_rfl) (by kernel_rfl) (by kernel_rfl) ?hq4b ?hy4b (by assumption) ?_
                  case ho4b => (simp only [List.getElem?_toArray, List.getElem?_cons_succ, List.getElem?_cons_zero]; rfl)
                  case hq4b => exact fun _ _ _ h => h
                  case hy4b => (refine Or.inl ⟨by rfl, ?_⟩; intro w hSw; obtain ⟨g1, g2, g3⟩ := hSw; go_simp; try with_reducible rfl)
                  try simp only [Act.put, List.setIfInBounds_toArray, List.set_cons_zero, List.set_cons_succ]
                  refine wpAnyH_take (i := 5) (oi := ?oi5b) (v := ?v5b) ?ho5b (by kernel_rfl) (by kernel_rfl) (by kernel_rfl) ?hq5b ?hy5b (by assumption) ?_
                  case ho5b => (simp only [List.getElem?_toArray, List.getElem?_cons_succ, List.getElem?_cons_zero]; rfl)
                  case hq5b => exact fun _ _ _ h => h
                  case hy5b => (refine Or.inl ⟨by rfl, ?_⟩; intro w hSw; obtain ⟨g1, g2, g3⟩ := hSw; go_simp; try with_reducible rfl)
                  try simp only [Act.put, List.setIfInBounds_toArray, List.set_cons_zero, List.set_cons_succ]
                  refine wpAnyH_take (i := 6) (oi := ?oi6b) (v := ?v6b) ?ho6b (by kernel_rfl) (by kernel_rfl) (by kernel_rfl) ?hq6b ?hy6b (by assumption) ?_
                  case ho6b => (simp only [List.getElem?_toArray, List.getElem?_cons_succ, List.getElem?_cons_zero]; rfl)
                  case hq6b => exact fun _ _ _ h => h
                  case hy6b => (refine Or.inl ⟨by rfl, ?_⟩; intro w hSw; obtain ⟨g1, g2, g3⟩ := hSw; go_simp; try with_reducible rfl)
                  try simp only [Act.put, List.setIfInBounds_toArray, List.set_cons_zero, List.set_cons_succ]
                  refine wpAnyH_take (i := 7) (oi := ?oi7b) (v := ?v7b) ?ho7b (by kernel_rfl) (by kernel_rfl) (by kernel_rfl) ?hq7b ?hy7b (by assumption) ?_
                  case ho7b => (simp only [List.getElem?_toArray, List.getElem?_cons_succ, List.getElem?_cons_zero]; rfl)
                  case hq7b => exact fun _ _ _ h => h
                  case hy7b => (refine Or.inl ⟨by rfl, ?_⟩; intro w hSw; obtain ⟨g1, g2, g3⟩ := hSw; go_simp; try with_reducible rfl)
                  try simp only [Act.put, List.setIfInBounds_toArray, List.set_cons_zero, List.set_cons_succ]
                  refine wpAnyH_take (i := 8) (oi := ?oi8b) (v := ?v8b) ?ho8b (by kernel_rfl) (by kernel_rfl) (by kernel_rfl) ?hq8b ?hy8b (by assumption) ?_
                  case ho8b => (simp only [List.getElem?_toArray, List.getElem?_cons_succ, List.getElem?_cons_zero]; rfl)
                  case hq8b => exact fun _ _ _ h => h
                  case hy8b => (refine Or.inl ⟨by rfl, ?_⟩; intro w hSw; obtain ⟨g1, g2, g3⟩ := hSw; go_simp; try with_reducible rfl)
                  try simp only [Act.put, List.setIfInBounds_toArray, List.set_cons_zero, List.set_cons_succ]
                  refine wpAnyH_take (i := 9) (oi := ?oi9b) (v := ?v9b) ?ho9b (by kernel_rfl) (by kernel_rfl) (by kernel_rfl) ?hq9b ?hy9b (by assumption) ?_
                  case ho9b => (simp only [List.getElem?_toArray, List.getElem?_cons_succ, List.getElem?_cons_zero]; rfl)
                  case hq9b => exact fun _ _ _ h => h
                  case hy9b => (refine Or.inl ⟨by rfl, ?_⟩; intro w hSw; obtain ⟨g1, g2, g3⟩ := hSw; go_simp; try with_reducible rfl)
                  try simp only [Act.put, List.setIfInBounds_toArray, List.set_cons_zero, List.set_cons_succ]
                  refine wpAnyH_take (i := 10) (oi := ?oi10b) (v := ?v10b) ?ho10b (by kernel_rfl) (by kernel_rfl) (by kernel_rfl) ?hq10b ?hy10b (by assumption) ?_
                  case ho10b => (simp only [List.getElem?_toArray, List.getElem?_cons_succ, List.getElem?_cons_zero]; rfl)
                  case hq10b => exact fun _ _ _ h => h
                  case hy10b => (refine Or.inl ⟨by rfl, ?_⟩; intro w hSw; obtain ⟨g1, g2, g3⟩ := hSw; go_simp; try with_reducible rfl)
                  try simp only [Act.put, List.setIfInBounds_toArray, List.set_cons_zero, List.set_cons_succ]
                  refine wpAnyH_take (i := 11) (oi := ?oi11b) (v := ?v11b) ?ho11b (by kernel_rfl) (by kernel_rfl) (by kernel_rfl) ?hq11b ?hy11b (by assumption) ?_
                  case ho11b => (simp only [List.getElem?_toArray, List.getElem?_cons_succ, List.getElem?_cons_zero]; rfl)
                  case hq11b => exact fun _ _ _ h => h
                  case hy11b => (refine Or.inl ⟨by rfl, ?_⟩; intro w hSw; obtain ⟨g1, g2, g3⟩ := hSw; go_simp; try with_reducible rfl)
                  try simp only [Act.put, List.setIfInBounds_toArray, List.set_cons_zero, List.set_cons_succ]
                  refine wpAnyH_take (i := 12) (oi := ?oi12b) (v := ?v12b) ?ho12b (by kernel_rfl) (by kernel_rfl) (by kernel_rfl) ?hq12b ?hy12b (by assumption) ?_
                  case ho12b => (simp only [List.getElem?_toArray, List.getElem?_cons_succ, List.getElem?_cons_zero]; rfl)
                  case hq12b => exact fun _ _ _ h => h
                  case hy12b => (refine Or.inl ⟨by rfl, ?_⟩; intro w hSw; obtain ⟨g1, g2, g3⟩ := hSw; go_simp; try with_reducible rfl)
                  try simp only [Act.put, List.setIfInBounds_toArray, List.set_cons_zero, List.set_cons_succ]
                  refine wpAnyH_take (i := 13) (oi := ?oi13b) (v := ?v13b) ?ho13b (by kernel_rfl) (by kernel_rfl) (by kernel_rfl) ?hq13b ?hy13b (by assumption) ?_
                  case ho13b => (simp only [List.getElem?_toArray, List.getElem?_cons_succ, List.getElem?_cons_zero]; rfl)
                  case hq13b => exact fun _ _ _ h => h
                  case hy13b => (refine Or.inl ⟨by rfl, ?_⟩; intro w hSw; obtain ⟨g1, g2, g3⟩ := hSw; go_simp; try with_reducible rfl)
                  try simp only [Act.put, List.setIfInBounds_toArray, List.set_cons_zero, List.set_cons_succ]
                  refine wpAnyH_ready (rs := [14]) (by kernel_rfl) (by simp) ?_
                  refine AllReadyH.cons rfl (fun K hK => ?_) AllReadyH.nil
                  go_simp
                  go_at_call 62
                  refine (VB _ (Kp.drew kz4)).mono ?_
                  rintro e w6 ⟨g, rfl, hv6, k6⟩
                  go_wp2_with fail
                  refine hK.out _ _ (HCV.out _ k6) (fun hHeld2 => ?_)
                  clear hK K hHeld
                  have cv0 : (convert 74 9 (.slice (some ⟨g, 0, none⟩) 3 3)).run Try.prog w6 = .ok (.string (bstr vv)) w6 := conv_rd hv6.out HV.out
                  try simp only [Act.put, List.setIfInBounds_toArray, List.set_cons_zero, List.set_cons_succ]
                  refine wpAnyH_ready (rs := [15]) (by kernel_rfl) (by simp) ?_
                  refine AllReadyH.cons rfl (fun K hK => ?_) AllReadyH.nil
                  go_simp
                  refine hK.out _ _ (HCV.out _ k6) (fun hHeld3 => ?_)
                  clear hK K
                  try simp only [Act.put, List.setIfInBounds_toArray, List.set_cons_zero, List.set_cons_succ]
                  refine wpAnyH_take (i := 16) (oi := ?oi16b) (v := ?v16b) ?ho16b (by kernel_rfl) (by kernel_rfl) (by kernel_rfl) ?hq16b ?hy16b (by assumption) ?_
                  case ho16b => (simp only [List.getElem?_toArray, List.getElem?_cons_succ, List.getElem?_cons_zero]; rfl)
                  case hq16b => exact fun _ _ _ h => h
                  case hy16b => (refine Or.inl ⟨by rfl, ?_⟩; intro w hSw; obtain ⟨g1, g2, g3⟩ := hSw; go_simp; try with_reducible rfl)
                  try simp only [Act.put, List.setIfInBounds_toArray, List.set_cons_zero, List.set_cons_succ]
                  refine wpAnyH_take (i := 17) (oi := ?oi17b) (v := ?v17b) ?ho17b (by kernel_rfl) (by kernel_rfl) (by kernel_rfl) ?hq17b ?hy17b (by assumption) ?_
                  case ho17b => (simp only [List.getElem?_toArray, List.getElem?_cons_succ, List.getElem?_cons_zero]; rfl)
                  case hq17b => exact fun _ _ _ h => h
                  case hy17b => (refine Or.inl ⟨by rfl, ?_⟩; intro w hSw; obtain ⟨g1, g2, g3⟩ := hSw; go_simp; try with_reducible rfl)
                  try simp only [Act.put, List.setIfInBounds_toArray, List.set_cons_zero, List.set_cons_succ]
                  refine wpAnyH_done (by kernel_rfl) ?_ _
                  have hk7 := hide (HQ.out.andNu (k4.andNu k6))
                  clear c0 c1 c2 y1 y2 hsz cv0 hHeld2 hHeld3 mixed hv6 HCV VB
                  go_wp2
                  exact ⟨⟨q + 1, by rw [HW.out.2], HW.out.1, hk7⟩, lt_mi HW.out.2 HW.out.1⟩
              · obtain rfl : q = n := by omega
                obtain ⟨hT, hs1, hs2, hln, hnN⟩ := HX4.out
                obtain ⟨a1, ea1⟩ : ∃ y : Int, y = (M1.length : Int) := ⟨_, rfl⟩
                obtain ⟨a2, ea2⟩ : ∃ y : Int, y = (M2.length : Int) := ⟨_, rfl⟩
                obtain ⟨b1, eb1⟩ : ∃ y : Int, y = (sumB M1 : Int) := ⟨_, rfl⟩
                obtain ⟨b2, eb2⟩ : ∃ y : Int, y = (sumB M2 : Int) := ⟨_, rfl⟩
                have LA := slen_any hA
                have LB := slen_any hB
                have BA := bytes65 hA
                have BB := bytes65 hB
                rw [← ea1] at LA
                rw [← ea2] at LB
                rw [← eb1] at BA
                rw [← eb2] at BB
                have f1 : wrap64 (a1 + a2) = (q : Int) := by unfold wrap64; omega
                have f2 : wrap64 (b1 + b2) = 3 * (q : Int) := by unfold wrap64; omega
                have f3 : wrap64 (3 * (q : Int)) = 3 * (q : Int) := by unfold wrap64; omega
                have y1 : ((q : Int) == (q : Int)) = true := by simp
                have y2 : (3 * (q : Int) == 3 * (q : Int)) = true := by simp
                have hnl : ¬ (q : Int) < (q : Int) := by omega
                have HKw := hide kw
                clear ea1 ea2 eb1 eb2 hT hs1 hs2 hln hnN hro hA hB kw HQ hq hqn mixed HX3 HX4 HLO HX HT HS HN HNB hbB HA
                go_wp2_with (first
                  | (go_at_call 52; refine LA.mono ?_; rintro e w8 ⟨rfl, hw⟩; obtain rfl := hw.symm; clear LA)
                  | (go_at_call 52; refine LB.mono ?_; rintro e w9 ⟨rfl, hw⟩; obtain rfl := hw.symm; clear LB)
                  | (go_at_call 65; refine BA.mono ?_; rintro e w8 ⟨rfl, hw⟩; obtain rfl := hw.symm; clear BA)
                  | (go_at_call 65; refine BB.mono ?_; rintro e w9 ⟨rfl, hw⟩; obtain rfl := hw.symm; clear BB))
                go_ret
                exact ⟨rfl, HKw.out⟩
end Go.Proofs.Ytchealdgncgjoaa.StU
