import Derived.Test.YtffcnonhhfhlhaaDoorOnF
import Derived.BigQuiet
import Derived.StillTailTactics
namespace Go.Proofs.YtffcnonhhfhlhaaDoor.Rg
open Go.RowKit Go.Shelf Go.Sort
open Go.Proofs.YtffcnonhhfhlhaaDoor.It
set_option linter.unusedVariables false
theorem flat_at {α : Type} {f : α → List Value} {e : Nat} (hf : ∀ a, (f a).length = e) : ∀ {l : List α} {p q : Nat} {a : α}, l[p]? = some a → q < e → (l.flatMap f)[p * e + q]? = (f a)[q]?
  | [], p, q, a, h, _ => by simp at h
  | x :: l, 0, q, a, h, hq => by
    simp at h; subst h
    rw [List.flatMap_cons, Nat.zero_mul, Nat.zero_add, List.getElem?_append_left (by rw [hf]; exact hq)]
  | x :: l, p + 1, q, a, h, hq => by
    have ih := flat_at hf (l := l) (p := p) (q := q) (a := a) (by simpa using h) hq
    rw [List.flatMap_cons, List.getElem?_append_right (by rw [hf, Nat.add_mul, Nat.one_mul]; omega), hf, ← ih]
    congr 1
    rw [Nat.add_mul, Nat.one_mul]; omega
theorem dnq {w wr : World} (h : ∃ q, wr = w.drewN q) (m : Nat) : ∃ q, wr.drewN m = w.drewN q := by
  obtain ⟨q, rfl⟩ := h
  exact ⟨q + m, by rw [World.drewN_drewN]⟩
theorem kqn {w wr : World} (h : ∃ q, wr = w.drewN q) : Kp Nu w wr := by
  obtain ⟨q, rfl⟩ := h
  exact ⟨rfl, rfl, rfl, Nat.le_refl _, fun _ _ _ => rfl⟩
set_option maxRecDepth 100000 in
set_option maxHeartbeats 1000000 in
theorem same_trueq (w : World) (u1 u2 : Value) (L : List Sg) (h1 : Rs w u1 L) (h2 : Rs w u2 L) (hl : L.length ≤ 8192) :
    Calls Tryd.prog 11 #[u1, u2] w fun e w' => e = .returned (.bool true) ∧ ∃ q, w' = w.drewN q := by
  have mixed : Tryd.prog.follows .mixedOrders = true := by kernel_rfl
  obtain ⟨r1, o1, c1, e1, x1⟩ := h1
  obtain ⟨r2, o2, c2, e2, x2⟩ := h2
  have HX1 := hide x1
  have HX2 := hide x2
  obtain ⟨N, hN⟩ : ∃ N, L.length = N := ⟨_, rfl⟩
  have HN := hide hN
  rw [hN] at e1 e2 hl
  have z0 : ((N : Int) != (N : Int)) = false := by simp
  subst e1 e2
  clear x1 x2 hN
  go_enter Tryd.func11, Tryd.ntmps11
  go_wp2_with fail
  go_loopw [5] (fun i wr => ∃ k : Nat, i = .int .i64 (k : Int) ∧ k ≤ N ∧ Hid (∃ q, wr = w.drewN q)) (fun i _ => N - (intOf i).toNat)
  case atStart => exact ⟨0, rfl, Nat.zero_le _, hide ⟨0, rfl⟩⟩
  case round =>
    obtain ⟨k, rfl, hk, hI⟩ := hrel
    by_cases hlt : k < N
    · have hkL : k < L.length := by rw [HN.out]; exact hlt
      obtain ⟨s, hs⟩ : ∃ s, L[k]? = some s := ⟨_, List.getElem?_eq_getElem hkL⟩
      obtain ⟨a0, a1, a2⟩ := HX1.out k s hs
      obtain ⟨b0, b1, b2⟩ := HX2.out k s hs
      have key : ∀ {a : Addr} {x : Value}, w.cell? a = some x → wr.drew.cell? a = some x := fun h => (World.cell?_of_block ((kqn hI.out).block _ (World.block_lt_of_cell? w _ h) (fun h => h))).trans h
      replace a0 := key a0; replace a1 := key a1; replace a2 := key a2
      replace b0 := key b0; replace b1 := key b1; replace b2 := key b2
      have hltI : (k : Int) < (N : Int) := by omega
      have hk0 : (0 : Int) ≤ (k : Int) := by omega
      have hkN : (k : Int) ≤ 8192 := by omega
      have HF : Hid (∃ q, wr.drew = w.drewN q) := hide (dnq hI.out 1)
      have y0 : (s.lo == s.lo) = true := by simp
      have y1 : (s.hi == s.hi) = true := by simp
      have y2 : (s.h == s.h) = true := by simp
      clear hI hs hkL key
      go_wp2_with fail
      go_region
      go_wp2
      go_roundw
      case rel => exact ⟨k + 1, by go_num, by omega, HF⟩
      case measure => simp [intOf]; omega
    · have hge : ¬ (k : Int) < (N : Int) := by omega
      go_wp2
      go_ret
      exact ⟨rfl, hI.out⟩
theorem own_k {w w' : World} {B t e n : Nat} {v : Value} {xs : List Value} (h : w.ownsRow B t e v n xs) (k : Kp Nu w w') : w'.ownsRow B t e v n xs := own_keep h (fun g e => k.block g (own_lt h e) (fun x => x))
theorem three_at {w : World} {B n p c : Nat} {a : Option Addr} {A : List Sg} {ss : List Int} {h : Int} (hr : w.ownsRow B 105 3 (.slice a n c) n (cellsH A ss)) (hh : ss[p]? = some h) (hp : p < n) : ∃ g, a = some ⟨g, 0, none⟩ ∧ w.cell? ⟨g, p * 3, none⟩ = some (.int .u8 h) ∧ w.cell? ⟨g, p * 3 + 1, none⟩ = some (.int .i64 (cntL A h)) ∧ w.cell? ⟨g, p * 3 + 2, none⟩ = some (.int .u64 (keyL A h - 1)) := by
  obtain ⟨g, c', e⟩ := own_blk hr (by omega)
  cases e
  have f : ∀ q, q < 3 → (cellsH A ss)[p * 3 + q]? = (encH A h)[q]? := fun q hq => flat_at (f := encH A) (e := 3) (fun _ => rfl) hh hq
  exact ⟨g, rfl, own_cell hr (by have := f 0 (by omega); simpa [encH] using this), own_cell hr (by have := f 1 (by omega); simpa [encH] using this), own_cell hr (by have := f 2 (by omega); simpa [encH] using this)⟩
theorem four_at {w : World} {B n p c : Nat} {a : Option Addr} {C : List Cg} {h : Cg} (hr : w.ownsRow B 112 4 (.slice a n c) n (cellsC C)) (hh : C[p]? = some h) (hp : p < n) : ∃ g, a = some ⟨g, 0, none⟩ ∧ w.cell? ⟨g, p * 4, none⟩ = some (.int .u64 h.lo) ∧ w.cell? ⟨g, p * 4 + 1, none⟩ = some (.int .u64 h.hi) ∧ w.cell? ⟨g, p * 4 + 2, none⟩ = some (.int .u8 h.f) ∧ w.cell? ⟨g, p * 4 + 3, none⟩ = some (.int .u8 h.t) := by
  obtain ⟨g, c', e⟩ := own_blk hr (by omega)
  cases e
  have f : ∀ q, q < 4 → (cellsC C)[p * 4 + q]? = (cellsK h)[q]? := fun q hq => flat_at (f := cellsK) (e := 4) (fun _ => rfl) hh hq
  exact ⟨g, rfl, own_cell hr (by have := f 0 (by omega); simpa [cellsK] using this), own_cell hr (by have := f 1 (by omega); simpa [cellsK] using this), own_cell hr (by have := f 2 (by omega); simpa [cellsK] using this), own_cell hr (by have := f 3 (by omega); simpa [cellsK] using this)⟩
set_option maxRecDepth 100000 in
set_option maxHeartbeats 4000000 in
theorem alike35 (w : World) (B b : Nat) (mv sv iv : Value) (ml sl il : List Value) (N i k : Nat) (hB : Bk w B b mv sv iv ml sl il) (em : ml.length = N) (es : sl.length = N) (ei : il.length = N) (hi : i < N) (hk : k < N) (n2 : N ≤ 100) (L A : List Sg) (ss : List Int) (C : List Cg) (m1 m2 s1 s2 c1 c2 : Value) (Bx By : Nat)
    (hm1 : ml[i]? = some m1) (hm2 : ml[k]? = some m2) (hs1 : sl[i]? = some s1) (hs2 : sl[k]? = some s2) (hc1 : il[i]? = some c1) (hc2 : il[k]? = some c2)
    (rm1 : Rs w m1 L) (rm2 : Rs w m2 L) (rs1 : w.ownsRow Bx 105 3 s1 ss.length (cellsH A ss)) (rs2 : w.ownsRow By 105 3 s2 ss.length (cellsH A ss)) (rc1 : w.ownsRow Bx 112 4 c1 C.length (cellsC C)) (rc2 : w.ownsRow By 112 4 c2 C.length (cellsC C)) (hL : L.length ≤ 8192) (hss : ss.length ≤ 256) (hC : C.length ≤ 20000) :
    Calls Tryd.prog 35 #[.pointer (some ⟨b, 0, none⟩), .int .i64 (i : Int), .int .i64 (k : Int)] w fun e w' => e = .returned (.bool true) ∧ Kp Nu w w' := by
  have mixed : Tryd.prog.follows .mixedOrders = true := by kernel_rfl
  obtain ⟨mg, mc, emv⟩ := own_blk hB.m (by omega)
  obtain ⟨sg, sc, esv⟩ := own_blk hB.s (by omega)
  obtain ⟨ig, ic, eiv⟩ := own_blk hB.i (by omega)
  rw [em] at emv
  rw [es] at esv
  rw [ei] at eiv
  subst emv esv eiv
  obtain ⟨SN, eSN⟩ : ∃ n, ss.length = n := ⟨_, rfl⟩
  obtain ⟨CN, eCN⟩ : ∃ n, C.length = n := ⟨_, rfl⟩
  rw [eSN] at rs1 rs2 hss
  rw [eCN] at rc1 rc2 hC
  obtain ⟨sa1, sc1, e1⟩ := own_slice rs1
  obtain ⟨sa2, sc2, e2⟩ := own_slice rs2
  obtain ⟨ca1, cc1, e3⟩ := own_slice rc1
  obtain ⟨ca2, cc2, e4⟩ := own_slice rc2
  subst e1 e2 e3 e4
  have cm : ∀ W, Kp Nu w W → (W.cell? ⟨b, 0, none⟩ = some (.slice (some ⟨mg, 0, none⟩) N mc) ∧ W.cell? ⟨b, 1, none⟩ = some (.slice (some ⟨sg, 0, none⟩) N sc) ∧ W.cell? ⟨b, 2, none⟩ = some (.slice (some ⟨ig, 0, none⟩) N ic)) ∧ (W.cell? ⟨mg, i, none⟩ = some m1 ∧ W.cell? ⟨mg, k, none⟩ = some m2) ∧ (W.cell? ⟨sg, i, none⟩ = some (.slice sa1 SN sc1) ∧ W.cell? ⟨sg, k, none⟩ = some (.slice sa2 SN sc2)) ∧ (W.cell? ⟨ig, i, none⟩ = some (.slice ca1 CN cc1) ∧ W.cell? ⟨ig, k, none⟩ = some (.slice ca2 CN cc2)) := fun W kW => by
    have q := hB.nu kW
    have qm := q.m; rw [em] at qm
    have qs := q.s; rw [es] at qs
    have qi := q.i; rw [ei] at qi
    exact ⟨cell3 q.blk, ⟨own_cell qm hm1, own_cell qm hm2⟩, ⟨own_cell qs hs1, own_cell qs hs2⟩, ⟨own_cell qi hc1, own_cell qi hc2⟩⟩
  have HM := hide cm
  have HR := hide (And.intro rs1 (And.intro rs2 (And.intro rc1 (And.intro rc2 (And.intro eSN eCN)))))
  have SM : ∀ n, Calls Tryd.prog 11 #[m1, m2] (w.drewN n) fun e w' => e = .returned (.bool true) ∧ ∃ q, w' = (w.drewN n).drewN q := fun n => same_trueq _ m1 m2 L (rm1.nu (kqn ⟨n, rfl⟩)) (rm2.nu (kqn ⟨n, rfl⟩)) hL
  have hNI : (N : Int) ≤ 100 := by omega
  have hi0 : (0 : Int) ≤ (i : Int) := by omega
  have hk0 : (0 : Int) ≤ (k : Int) := by omega
  have hiN : (i : Int) < (N : Int) := by omega
  have hkN : (k : Int) < (N : Int) := by omega
  have eti : (i : Int).toNat = i := by omega
  have etk : (k : Int).toNat = k := by omega
  have hne1 : ((SN : Int) != (SN : Int)) = false := by simp
  have hne2 : ((CN : Int) != (CN : Int)) = false := by simp
  obtain ⟨⟨x0, x1, x2⟩, ⟨x3, x4⟩, ⟨x5, x6⟩, ⟨x7, x8⟩⟩ := cm w (Kp.refl _ _)
  clear cm rs1 rs2 rc1 rc2 eSN eCN hB em es ei hm1 hm2 hs1 hs2 hc1 hc2 rm1 rm2
  go_enter Tryd.func35, Tryd.ntmps35
  go_wp2_with fail
  go_quiet (first | (go_at_call 11; exact Calls.quiet_of (SM _)))
  obtain ⟨WA, hWA⟩ : ∃ W, w.drewN nq = W := ⟨_, rfl⟩
  have HW : Hid (∃ q, WA = w.drewN q) := hide ⟨nq, hWA.symm⟩
  rw [hWA]
  clear x0 x1 x2 x3 x4 x5 x6 x7 x8 hWA SM
  go_wp2
  go_loopw [7] (fun nv wr => ∃ p : Nat, nv = .int .i64 (p : Int) ∧ p ≤ SN ∧ Hid (∃ q, wr = w.drewN q)) (fun nv _ => SN - (intOf nv).toNat)
  case atStart => exact ⟨0, rfl, Nat.zero_le _, HW⟩
  case round =>
    obtain ⟨p, rfl, hp, hI⟩ := hrel
    have hp0 : (0 : Int) ≤ (p : Int) := by omega
    have hSI : (SN : Int) ≤ 256 := by omega
    obtain ⟨⟨x0, x1, x2⟩, _, ⟨x5, x6⟩, ⟨x7, x8⟩⟩ := HM.out wr (kqn hI.out)
    by_cases hlt : p < SN
    · have hltI : (p : Int) < (SN : Int) := by omega
      have etp : (p : Int).toNat = p := by omega
      obtain ⟨h, hh⟩ : ∃ h, ss[p]? = some h := ⟨_, List.getElem?_eq_getElem (by rw [HR.out.2.2.2.2.1]; exact hlt)⟩
      obtain ⟨q1, q2, q3⟩ : (∃ g, sa1 = some ⟨g, 0, none⟩ ∧ wr.cell? ⟨g, p * 3, none⟩ = some (.int .u8 h) ∧ wr.cell? ⟨g, p * 3 + 1, none⟩ = some (.int .i64 (cntL A h)) ∧ wr.cell? ⟨g, p * 3 + 2, none⟩ = some (.int .u64 (keyL A h - 1))) ∧ (∃ g, sa2 = some ⟨g, 0, none⟩ ∧ wr.cell? ⟨g, p * 3, none⟩ = some (.int .u8 h) ∧ wr.cell? ⟨g, p * 3 + 1, none⟩ = some (.int .i64 (cntL A h)) ∧ wr.cell? ⟨g, p * 3 + 2, none⟩ = some (.int .u64 (keyL A h - 1))) ∧ True := by
        refine ⟨three_at (own_k HR.out.1 (kqn hI.out)) hh hlt, three_at (own_k HR.out.2.1 (kqn hI.out)) hh hlt, trivial⟩
      obtain ⟨g1, rfl, y0, y1, y2⟩ := q1
      obtain ⟨g2, rfl, z0, z1, z2⟩ := q2
      obtain ⟨t1, et1⟩ : ∃ t, cntL A h = t := ⟨_, rfl⟩
      obtain ⟨t2, et2⟩ : ∃ t, keyL A h - 1 = t := ⟨_, rfl⟩
      rw [et1] at y1 z1
      rw [et2] at y2 z2
      clear et1 et2 hh
      go_wp2_with fail
      go_quiet (fail)
      obtain ⟨WB, hWB⟩ : ∃ W, wr.drewN nq = W := ⟨_, rfl⟩
      have HB2 : Hid (∃ q, WB = w.drewN q) := hide (by rw [← hWB]; exact dnq hI.out nq)
      rw [hWB]
      go_wp2
      exact ⟨⟨p + 1, by go_num, by omega, HB2⟩, by simp [intOf]; omega⟩
    · have hltI : ¬ (p : Int) < (SN : Int) := by omega
      go_wp2
      clear x0 x1 x2 x5 x6 x7 x8 hltI hlt hp hp0
      go_loopw [8] (fun nv wr => ∃ p : Nat, nv = .int .i64 (p : Int) ∧ p ≤ CN ∧ Hid (∃ q, wr = w.drewN q)) (fun nv _ => CN - (intOf nv).toNat)
      case atStart => exact ⟨0, rfl, Nat.zero_le _, hI⟩
      case round =>
        rename_i wr0
        obtain ⟨p, rfl, hp, hI⟩ := hrel
        have hp0 : (0 : Int) ≤ (p : Int) := by omega
        have hCI : (CN : Int) ≤ 20000 := by omega
        obtain ⟨⟨x0, x1, x2⟩, _, ⟨x5, x6⟩, ⟨x7, x8⟩⟩ := HM.out wr (kqn hI.out)
        by_cases hlt : p < CN
        · have hltI : (p : Int) < (CN : Int) := by omega
          have etp : (p : Int).toNat = p := by omega
          obtain ⟨h, hh⟩ : ∃ h, C[p]? = some h := ⟨_, List.getElem?_eq_getElem (by rw [HR.out.2.2.2.2.2]; exact hlt)⟩
          obtain ⟨g1, rfl, y0, y1, y2, y3⟩ := four_at (own_k HR.out.2.2.1 (kqn hI.out)) hh hlt
          obtain ⟨g2, rfl, z0, z1, z2, z3⟩ := four_at (own_k HR.out.2.2.2.1 (kqn hI.out)) hh hlt
          obtain ⟨t0, t1, t2, t3⟩ := h
          clear hh
          go_wp2_with fail
          go_quiet (fail)
          obtain ⟨WB, hWB⟩ : ∃ W, wr.drewN nq = W := ⟨_, rfl⟩
          have HB2 : Hid (∃ q, WB = w.drewN q) := hide (by rw [← hWB]; exact dnq hI.out nq)
          rw [hWB]
          go_wp2
          exact ⟨⟨p + 1, by go_num, by omega, HB2⟩, by simp [intOf]; omega⟩
        · have hltI : ¬ (p : Int) < (CN : Int) := by omega
          go_wp2
          go_ret
          exact ⟨rfl, kqn hI.out⟩
end Go.Proofs.YtffcnonhhfhlhaaDoor.Rg
namespace Go.Proofs.YtffcnonhhfhlhaaDoor.Rg
open Go.RowKit Go.Shelf Go.Sort
set_option linter.unusedVariables false
/-- a segment whose host is turned in its place -/
def trn (s : Sg) : Sg := ⟨s.lo, s.hi, (s.h + 1) % 16⟩
theorem cov_turn : ∀ {L : List Sg} {a b : Int}, Cov a L b → Cov a (L.map trn) b
  | [], a, b, h => h
  | s :: r, a, b, h => ⟨h.1, h.2.1, cov_turn h.2.2⟩
theorem alt_turn : ∀ {L : List Sg}, (∀ s ∈ L, 0 ≤ s.h ∧ s.h < 16) → Alt L → Alt (L.map trn)
  | [], _, h => h
  | [s], _, h => h
  | s :: t :: r, hs, h => by
    have h1 := hs s (by simp)
    have h2 := hs t (by simp)
    refine ⟨fun e => h.1 ?_, alt_turn (L := t :: r) (fun x hx => hs x (List.mem_cons_of_mem _ hx)) h.2⟩
    have e' : (s.h + 1) % 16 = (t.h + 1) % 16 := e
    omega
theorem Tab.turn {L : List Sg} (h : Tab L) : Tab (L.map trn) :=
  ⟨cov_turn h.cov, alt_turn h.hs h.alt, fun s hs => by
    obtain ⟨t, ht, rfl⟩ := List.mem_map.1 hs
    show 0 ≤ (t.h + 1) % 16 ∧ (t.h + 1) % 16 < 16
    omega⟩
theorem Tab.good {L : List Sg} (h : Tab L) : Good L := ⟨h.cov, h.hs⟩
theorem lay_app : ∀ (A : List Sg) (t s : Sg), t.h ≠ s.h → lay (A ++ [t]) s = A ++ [t, s]
  | [], t, s, h => by simp [lay, h]
  | [x], t, s, h => by simp [lay, h]
  | x :: y :: A, t, s, h => by
    have ih := lay_app (y :: A) t s h
    simp only [List.cons_append] at ih ⊢
    cases A <;> simp_all [lay]
theorem alt_mid : ∀ (A : List Sg) (t s : Sg) (R : List Sg), Alt (A ++ t :: s :: R) → t.h ≠ s.h
  | [], t, s, R, h => h.1
  | [x], t, s, R, h => h.2.1
  | x :: y :: A, t, s, R, h => alt_mid (y :: A) t s R h.2
theorem lays_app : ∀ (R A : List Sg) (t : Sg), Alt (A ++ t :: R) → lays (A ++ [t]) R = A ++ t :: R
  | [], A, t, _ => rfl
  | s :: R, A, t, h => by
    rw [lays_cons, lay_app A t s (alt_mid A t s R h)]
    have := lays_app R (A ++ [t]) s (by simpa using h)
    simpa using this
theorem Tab.lays {L : List Sg} (h : Tab L) : Rg.lays [] L = L := by
  cases L with
  | nil => rfl
  | cons t R =>
    have := lays_app R [] t h.alt
    simpa [lays_cons, lay] using this
/-- a table has nothing unlike itself -/
theorem dst_self {L : List Sg} (h : Tab L) : (dst L L).2 = [] := by
  rcases hC : (dst L L).2 with _ | ⟨c, r⟩
  · rfl
  · obtain ⟨h1, h2, h3, h4, h5, _⟩ := (diff_facts h h).all c (by rw [hC]; simp)
    obtain ⟨e1, e2⟩ := h5 c.lo (Int.le_refl _) h2
    exact absurd (e1.symm.trans e2) h4
end Go.Proofs.YtffcnonhhfhlhaaDoor.Rg
namespace Go.Proofs.YtffcnonhhfhlhaaDoor.Rg
open Go.RowKit Go.Shelf Go.Sort
open Go.Proofs.YtffcnonhhfhlhaaDoor.It
set_option linter.unusedVariables false
theorem info26p : (Tryd.prog.info? 26).map (fun i => (i.zero, i.size, i.bytes)) = some (some (.agg #[.int .u64 0, .int .u64 0, .int .u8 0]), 3, 24) := by kernel_rfl
theorem cells_set {v : Int} : ∀ {M : List Sg} {i : Nat} {s : Sg}, M[i]? = some s → (cells M).set (i * 3 + 2) (.int .u8 v) = cells (M.set i ⟨s.lo, s.hi, v⟩)
  | [], i, s, h => by simp at h
  | a :: M, 0, s, h => by
    simp only [List.getElem?_cons_zero, Option.some.injEq] at h
    subst h
    simp [cells, cellsG]
  | a :: M, i + 1, s, h => by
    have ih := cells_set (v := v) (M := M) (i := i) (s := s) (by simpa using h)
    have e : (i + 1) * 3 + 2 = i * 3 + 2 + 3 := by omega
    rw [e]
    simp only [cells, List.flatMap_cons, List.set_cons_succ, cellsG, List.cons_append, List.nil_append] at ih ⊢
    rw [ih]
/-- a list of which the first i hosts have been turned -/
def tns' (L : List Sg) (i : Nat) : List Sg := (L.take i).map trn ++ L.drop i
theorem tns'_zero (L : List Sg) : tns' L 0 = L := by simp [tns']
theorem tns'_full (L : List Sg) : tns' L L.length = L.map trn := by simp [tns']
theorem tns'_len (L : List Sg) (i : Nat) : (tns' L i).length = L.length := by
  unfold tns'
  rw [List.length_append, List.length_map, List.length_take, List.length_drop]
  omega
theorem tns'_at {L : List Sg} {i : Nat} {s : Sg} (h : L[i]? = some s) : (tns' L i)[i]? = some s := by
  have hl := (List.getElem?_eq_some_iff.1 h).1
  unfold tns'
  rw [List.getElem?_append_right (by simp; omega), List.length_map, List.length_take, List.getElem?_drop, ← h]
  congr 1
  omega
theorem tns'_step {L : List Sg} {i : Nat} {s : Sg} (h : L[i]? = some s) : (tns' L i).set i (trn s) = tns' L (i + 1) := by
  have hl := (List.getElem?_eq_some_iff.1 h).1
  have hg : L[i] = s := (List.getElem?_eq_some_iff.1 h).2
  unfold tns'
  have hlt : ((L.take i).map trn).length = i := by rw [List.length_map, List.length_take]; omega
  rw [List.set_append_right _ _ (by omega), hlt, Nat.sub_self, List.drop_eq_getElem_cons hl, List.set_cons_zero, List.take_add_one, h]
  simp
theorem hostw {h : Int} (h0 : 0 ≤ h) (h1 : h < 16) : IntKind.u8.wrap (h + 1) = h + 1 ∧ IntKind.u8.wrap ((h + 1) % 16) = (h + 1) % 16 ∧ (h + 1).tmod 16 = (h + 1) % 16 ∧ 0 ≤ h + 1 := by
  refine ⟨?_, ?_, ?_, by omega⟩
  · show (h + 1) % 256 = h + 1; omega
  · show ((h + 1) % 16) % 256 = (h + 1) % 16; omega
  · rw [Int.tmod_eq_emod_of_nonneg (by omega)]
theorem own_nu {w w' : World} {B t e n : Nat} {v : Value} {xs : List Value} (k : Kp Nu w w') (h : w.ownsRow B t e v n xs) : w'.ownsRow B t e v n xs := own_keep h (fun g e => k.block g (own_lt h e) (fun x => x))
set_option maxRecDepth 100000 in
set_option maxHeartbeats 1000000 in
theorem placed36 (w : World) (Bx : Nat) (u : Value) (L : List Sg) (lim : Int) (hu : w.ownsRow Bx 26 3 u L.length (cells L)) (hT : Tab L) (hlen : (L.length : Int) ≤ lim) (hlim : lim ≤ 8192) :
    Calls Tryd.prog 36 #[u, .int .i64 lim] w fun e w' => e = .returned (.bool true) ∧ Kp Nu w w' := by
  have mixed : Tryd.prog.follows .mixedOrders = true := by kernel_rfl
  have hne := hT.ne
  obtain ⟨g, cu, eu⟩ := own_blk hu hne
  obtain ⟨N, eN⟩ : ∃ n, L.length = n := ⟨_, rfl⟩
  obtain ⟨i0, hiT, hz0, hz1, hz2⟩ := info_parts info26p
  have hcl : (cells L).length = N * 3 := by have := hu.1; rw [eN] at this; exact this
  have HB : Hid (1 ≤ lim) := hide (by omega)
  rw [eN] at eu hlen hne
  subst eu
  have hN2 : N ≤ 8192 := by omega
  have news : ∀ j x, (cells L)[j]? = some x → w.cell? ((⟨g, 0, none⟩ : Addr).add j) = some x := fun j x hx => by
    have := own_cell (B := Bx) (t := 26) (e := 3) (n := N) (by have h := hu; rw [eN] at h; exact h) hx
    have hadd : (⟨g, 0, none⟩ : Addr).add j = ⟨g, j, none⟩ := by unfold Addr.add; split <;> simp_all
    rw [hadd]; exact this
  have hu' : w.ownsRow Bx 26 3 (.slice (some ⟨g, 0, none⟩) N cu) N (cells L) := by rw [eN] at hu; exact hu
  have HU := hide (And.intro hu' (And.intro hT (And.intro eN (And.intro hcl hlen))))
  have HN := hide news
  have HL : Hid (lim ≤ 8192 ∧ N ≤ 8192) := hide ⟨hlim, hN2⟩
  clear hu hu' hT eN hcl news
  go_enter Tryd.func36, Tryd.ntmps36
  go_wp2_with (at_builtin; refine unhid ?_)
  refine wpList_append_lies _ rfl _ _ 22 rfl w.heap.size 26 i0 _ 3 24 Tryd.underlying22 hiT hz0 hz1 hz2 rfl (by decide) (.slice none 0 0) 0 [] rfl (World.ownsRow_nil _ _ _ _) ⟨g, 0, none⟩ N cu (cells L) (by first | rfl | (simp; done)) HU.out.2.2.2.1 HN.out (cells_one L) hne (by unfold maxLen; omega) (by omega) (Nat.le_refl _) _ rfl ?_
  intro g1 cap1 w1 hown1 hgrow1 hat1 hlt1
  have K1 : Kp Nu w w1 := (Kp.of_grown hgrow1).mono (fun _ _ e => by cases e)
  have O1 : w1.ownsRow w.heap.size 26 3 (.slice (some ⟨g1, 0, none⟩) N cap1) N (cells L) := by
    have h := hown1
    simp only [Nat.zero_add, List.nil_append] at h
    exact h
  have LO := Load_good w1 (.slice (some ⟨g1, 0, none⟩) N cap1) L (rs_of_own (B := w.heap.size) (by rw [HU.out.2.2.1]; exact O1) (by rw [HU.out.2.2.1]; exact hne)) HU.out.2.1.good (by rw [HU.out.2.2.1]; exact hN2) lim HB.out hlim (by rw [HU.out.2.1.lays, HU.out.2.2.1]; exact HU.out.2.2.2.2)
  rw [HU.out.2.1.lays] at LO
  have H1 := hide (And.intro O1 K1)
  clear O1 K1 hown1 hgrow1 hat1 hlt1
  try simp only [Nat.zero_add]
  go_wp2_with fail
  refine LO.mono ?_; rintro e w2 ⟨b, v, rfl, t2, k2⟩
  have H2 := hide (And.intro t2 k2)
  have HI : Hid (w2.ownsRow w.heap.size 26 3 (.slice (some ⟨g1, 0, none⟩) N cap1) N (cells (tns' L 0))) := hide (by rw [tns'_zero]; exact own_nu k2 H1.out.1)
  have hNI : (N : Int) ≤ 8192 := by omega
  clear LO t2 k2 hlen hlim hN2
  go_wp2
  go_loopw [8] (fun iv wr => ∃ i : Nat, iv = .int .i64 (i : Int) ∧ i ≤ N ∧ Hid (wr.ownsRow w.heap.size 26 3 (.slice (some ⟨g1, 0, none⟩) N cap1) N (cells (tns' L i)) ∧ Kp (fun q => q = g1) w2 wr)) (fun iv _ => N - (intOf iv).toNat)
  case atStart => exact ⟨0, rfl, Nat.zero_le _, hide ⟨HI.out, Kp.refl _ _⟩⟩
  case round =>
    obtain ⟨i, rfl, hi, hQ⟩ := hrel
    have hi0 := nz i
    by_cases hlt : i < N
    · have hltI := lti hlt
      have eti := tn i
      obtain ⟨s, hs⟩ : ∃ s, L[i]? = some s := ⟨_, List.getElem?_eq_getElem (by rw [HU.out.2.2.1]; exact hlt)⟩
      obtain ⟨s0, s1⟩ := HU.out.2.1.hs s (List.mem_of_getElem? hs)
      have cx : wr.cell? ⟨g1, i * 3 + 2, none⟩ = some (.int .u8 s.h) := own_cell hQ.out.1 (by rw [cells_at _ i s (tns'_at hs) 2 (by decide)]; rfl)
      have fx := own_free hQ.out.1 (i * 3 + 2)
      obtain ⟨x, ex⟩ : ∃ x, s.h = x := ⟨_, rfl⟩
      rw [ex] at cx s0 s1
      obtain ⟨e1, e2, e3, e4⟩ := hostw s0 s1
      have HX : Hid ((wr.setCell ⟨g1, i * 3 + 2, none⟩ (.int .u8 ((x + 1) % 16))).ownsRow w.heap.size 26 3 (.slice (some ⟨g1, 0, none⟩) N cap1) N (cells (tns' L (i + 1))) ∧ Kp (fun q => q = g1) w2 (wr.setCell ⟨g1, i * 3 + 2, none⟩ (.int .u8 ((x + 1) % 16)))) := by
        have h := own_put hQ.out.1 (i * 3 + 2) (.int .u8 ((x + 1) % 16)) (by have := hQ.out.1.1; omega)
        rw [cells_set (tns'_at hs)] at h
        have e : (⟨s.lo, s.hi, (x + 1) % 16⟩ : Sg) = trn s := by unfold trn; rw [ex]
        rw [e, tns'_step hs] at h
        exact hide ⟨h, hQ.out.2.andSet _ _ (.inr rfl)⟩
      have hfin := hide (fin20 hlt)
      obtain ⟨eK1, eK2⟩ := wk1 (k := i) (by omega)
      clear hs ex hQ HI hi hlt
      go_wp2
      exact ⟨⟨i + 1, ins i, hfin.out.1, hide ⟨HX.out.1, HX.out.2⟩⟩, by simp only [intOf]; rw [tns, tn]; exact hfin.out.2⟩
    · have hltI := nlti hlt
      obtain rfl : i = N := by omega
      have OL : wr.ownsRow w.heap.size 26 3 (.slice (some ⟨g1, 0, none⟩) i cap1) i (cells (L.map trn)) := by
        have h := hQ.out.1
        rw [← HU.out.2.2.1, tns'_full] at h
        rw [← HU.out.2.2.1]
        exact h
      have hml : (L.map trn).length = i := by rw [List.length_map]; exact HU.out.2.2.1
      have T1 : Tb w1.heap.size wr b lim v L := by
        obtain ⟨t2, k2⟩ := H2.out
        have hg := own_lt H1.out.1 (g := g1) rfl
        refine ⟨(hQ.out.2.block b (blk_lt t2.blk) (fun e => ?_)).trans t2.blk, t2.low, own_keep t2.own (fun q e => hQ.out.2.block q (own_lt t2.own e) (fun e2 => ?_)), t2.tab, t2.len, t2.lim1⟩
        · have e : b = g1 := e
          have := t2.low
          omega
        · have e2 : q = g1 := e2
          have := (t2.own.lt q e).1
          omega
      have KW : Kp Nu w wr := (H1.out.2.andNu H2.out.2).trans hQ.out.2 (fun q hq e => by
        have e : q = g1 := e
        have := (H1.out.1.lt g1 rfl).1
        omega)
      have LO := Load_good wr (.slice (some ⟨g1, 0, none⟩) i cap1) (L.map trn) (rs_of_own (B := w.heap.size) (by rw [hml]; exact OL) (by rw [hml]; exact hne)) HU.out.2.1.turn.good (by rw [hml]; exact HL.out.2) lim HB.out HL.out.1 (by rw [HU.out.2.1.turn.lays, hml]; exact HU.out.2.2.2.2)
      rw [HU.out.2.1.turn.lays] at LO
      have H3 := hide (And.intro OL (And.intro hml (And.intro T1 KW)))
      clear OL hml T1 KW hQ HI hi hlt H1 H2 HN
      go_wp2_with fail
      refine LO.mono ?_; rintro e w3 ⟨b2, v2, rfl, t3, k3⟩
      have H4 := hide (And.intro t3 k3)
      have NU := fun W => num_any 0 W
      clear LO t3 k3 hltI
      go_wp2_with (first | (go_at_call 29; refine (NU _).mono ?_; rintro e w' ⟨rfl, hw'⟩; obtain rfl := hw'.symm))
      have LI := list_any (H3.out.2.2.1.nu H4.out.2)
      refine LI.mono ?_; rintro e w4 ⟨u1, rfl, o4, k4⟩
      rw [HU.out.2.2.1] at o4
      obtain ⟨a4, c4, e4⟩ := own_slice o4
      subst e4
      have H5 := hide (And.intro o4 k4)
      have SM := same_true w4 _ (.slice (some ⟨g, 0, none⟩) i cu) L (rs_of_own (B := w3.heap.size) (by rw [HU.out.2.2.1]; exact o4) HU.out.2.1.ne) (rs_of_own (B := Bx) (by rw [HU.out.2.2.1]; exact own_nu k4 (own_nu H4.out.2 (own_nu H3.out.2.2.2 HU.out.1))) HU.out.2.1.ne) (by rw [HU.out.2.2.1]; exact HL.out.2)
      clear LI o4 k4
      go_wp2_with fail
      refine SM.mono ?_; rintro e w5 ⟨rfl, k5⟩
      have H6 := hide k5
      clear SM k5
      have LI := list_any ((H4.out.1.nu H5.out.2).nu H6.out)
      go_wp2_with fail
      refine LI.mono ?_; rintro e w6 ⟨u2, rfl, o6, k6⟩
      rw [H3.out.2.1] at o6
      obtain ⟨a6, c6, e6⟩ := own_slice o6
      subst e6
      have H7 := hide k6
      have SM := same_true w6 _ (.slice (some ⟨g1, 0, none⟩) i cap1) (L.map trn) (rs_of_own (B := w5.heap.size) (by rw [H3.out.2.1]; exact o6) HU.out.2.1.turn.ne) (rs_of_own (B := w.heap.size) (by rw [H3.out.2.1]; exact own_nu k6 (own_nu H6.out (own_nu H5.out.2 (own_nu H4.out.2 H3.out.1)))) HU.out.2.1.turn.ne) (by rw [H3.out.2.1]; exact HL.out.2)
      clear LI o6 k6
      go_wp2_with fail
      refine SM.mono ?_; rintro e w7 ⟨rfl, k7⟩
      have H8 := hide k7
      clear SM k7
      go_wp2
      go_ret
      exact ⟨rfl, ((((H3.out.2.2.2.andNu H4.out.2).andNu H5.out.2).andNu H6.out).andNu H7.out).andNu H8.out⟩
end Go.Proofs.YtffcnonhhfhlhaaDoor.Rg
