import Derived.Test.YtbifmcadllilhaaPpC
namespace Go.Proofs.Ytbifmcadllilhaa.Rg
open Go.RowKit Go.Shelf Go.Sort
open Go.Proofs.Ytbifmcadllilhaa.It
set_option linter.unusedVariables false
theorem ow_mem : ∀ {L : List Sg} {a b k : Int} {s : Sg}, Cov a L b → s ∈ L → s.lo ≤ k → k ≤ s.hi → ow L k = s.h
  | [], a, b, k, s, _, hs, _, _ => by cases hs
  | t :: r, a, b, k, s, h, hs, h1, h2 => by
    rw [ow_cons]
    rcases List.mem_cons.1 hs with rfl | hs
    · rw [if_pos h2]
    · have q := cov_mem h.2.2 s hs
      rw [if_neg (by omega)]
      exact ow_mem h.2.2 hs h1 h2
theorem own_iff {L : List Sg} (h : Tab L) {lo hi o : Int} (h0 : 0 ≤ lo) (h1 : lo ≤ hi) (h2 : hi < 18446744073709551616) : (∀ s ∈ L, lo ≤ s.hi → s.lo ≤ hi → s.h = o) ↔ Own L lo hi o := by
  constructor
  · intro hA k k1 k2
    obtain ⟨s, hs, q1, q2, q3, _⟩ := plc_facts h.cov (by omega : 0 ≤ k) (by omega)
    rw [← q3]
    exact hA s (List.mem_of_getElem? hs) (by omega) (by omega)
  · intro hO s hs q1 q2
    have := cov_mem h.cov s hs
    by_cases q : s.lo ≤ lo
    · rw [← ow_mem h.cov hs q q1]
      exact hO lo (by omega) h1
    · rw [← ow_mem h.cov hs (Int.le_refl _) this.2.1]
      exact hO s.lo (by omega) q2
set_option maxRecDepth 100000 in
set_option maxHeartbeats 2000000 in
theorem rowns39 (w : World) (u : Value) (L : List Sg) (lim : Int) (hu : Sgs w u L) (hT : Tab L) (hl : L.length ≤ 16384) (lo hi o : Int) (h0 : 0 ≤ lo) (h2 : hi < 18446744073709551616) :
    Calls Try.prog 39 #[.agg #[.int .i64 lim, u], .int .u64 lo, .int .u64 hi, .int .u8 o] w fun e w' => Pn.Ans (lo ≤ hi ∧ Own L lo hi o) e ∧ Kp Nu w w' := by
  have mixed : Try.prog.follows .mixedOrders = true := by kernel_rfl
  obtain ⟨ad, cap, e1⟩ := hu.slice
  obtain ⟨N, eN⟩ : ∃ N, L.length = N := ⟨_, rfl⟩
  have hne := hT.ne
  rw [eN] at e1 hl hne
  subst e1
  obtain ⟨w1, hw1⟩ : ∃ w1, w.alloc (.cells #[.int .i64 lim, .slice ad N cap] 76) = w1 := ⟨_, rfl⟩
  have kA : Kp Nu w w1 := by rw [← hw1]; exact Kp.alloc _ _ _
  have bA : w1.heap[w.heap.size]? = some (.cells #[.int .i64 lim, .slice ad N cap] 76 (0, 0)) := by rw [← hw1]; exact heap_alloc_new w _
  have cb0 : w1.cell? ⟨w.heap.size, 1, none⟩ = some (.slice ad N cap) := by simp [World.cell?, bA]
  have HU := hide (And.intro (hu.nu kA) (And.intro eN (And.intro hT kA)))
  have hNI : (N : Int) ≤ 16384 := by omega
  have hneI : (0 : Int) < (N : Int) := by omega
  clear hu eN hT bA
  by_cases hg : lo > hi
  · have dg : decide (lo > hi) = true := by simpa using hg
    have HG := hide hg
    clear hg
    go_enter Try.func39, Try.ntmps39
    go_wp2
    go_ret
    exact ⟨⟨false, rfl, by simp; intro h; have := HG.out; omega⟩, HU.out.2.2.2⟩
  have dg : decide (lo > hi) = false := by simpa using hg
  have HLH : Hid (lo ≤ hi) := hide (by omega)
  clear hg
  go_enter Try.func39, Try.ntmps39
  go_wp2_with fail
  go_loopw [9] (fun iv wr => ∃ i : Nat, iv = .int .i64 (i : Int) ∧ i ≤ N ∧ Hid (∀ s ∈ L.take i, lo ≤ s.hi → s.lo ≤ hi → s.h = o) ∧ wr = w1) (fun iv _ => N - (intOf iv).toNat)
  case atStart => exact ⟨0, rfl, Nat.zero_le _, hide (fun s hs => by simp at hs), rfl⟩
  case round =>
    obtain ⟨i, rfl, hi', hI, rfl⟩ := hrel
    have hi0 : (0 : Int) ≤ (i : Int) := by omega
    by_cases hlt : i < N
    · have hltI : (i : Int) < (N : Int) := by omega
      obtain ⟨x, hx⟩ : ∃ x, L[i]? = some x := ⟨_, List.getElem?_eq_getElem (by rw [HU.out.2.1]; exact hlt)⟩
      obtain ⟨b1, o1, rfl, k1⟩ := HU.out.1.at_ hx
      obtain ⟨x0, x1, x2, hf⟩ := k1
      have eti : (i : Int).toNat = i := by omega
      have htk : L.take (i + 1) = L.take i ++ [x] := by rw [List.take_add_one, hx]; rfl
      have good : (lo ≤ x.hi → x.lo ≤ hi → x.h = o) → ∀ s ∈ L.take (i + 1), lo ≤ s.hi → s.lo ≤ hi → s.h = o := fun hg s hs => by
        rw [htk] at hs
        rcases List.mem_append.1 hs with h | h
        · exact hI.out s h
        · simp only [List.mem_singleton] at h; rw [h]; exact hg
      have HX := hide (And.intro good (List.mem_of_getElem? hx))
      clear hx htk good hf
      by_cases q1 : lo ≤ x.hi
      · have d1 : decide (x.hi ≥ lo) = true := by simpa using q1
        by_cases q2 : x.lo ≤ hi
        · have d2 : decide (x.lo ≤ hi) = true := by simpa using q2
          by_cases q3 : x.h = o
          · have d3 : (x.h != o) = false := by simpa using q3
            have HG := hide (HX.out.1 (fun _ _ => q3))
            clear q1 q2 q3
            go_wp2
            exact ⟨⟨i + 1, by go_num, by omega, HG, trivial⟩, by simp [intOf]; omega⟩
          · have d3 : (x.h != o) = true := by simpa using q3
            have HG : Hid (¬ Own L lo hi o) := hide (fun hO => q3 ((own_iff HU.out.2.2.1 h0 HLH.out h2).2 hO x HX.out.2 q1 q2))
            clear q1 q2 q3
            go_wp2
            go_ret
            exact ⟨⟨false, rfl, by simp; exact fun _ => HG.out⟩, HU.out.2.2.2⟩
        · have d2 : decide (x.lo ≤ hi) = false := by simpa using q2
          have HG := hide (HX.out.1 (fun _ h => absurd h q2))
          clear q1 q2
          go_wp2
          exact ⟨⟨i + 1, by go_num, by omega, HG, trivial⟩, by simp [intOf]; omega⟩
      · have d1 : decide (x.hi ≥ lo) = false := by simpa using q1
        have HG := hide (HX.out.1 (fun h => absurd h q1))
        clear q1
        go_wp2
        exact ⟨⟨i + 1, by go_num, by omega, HG, trivial⟩, by simp [intOf]; omega⟩
    · have hge : ¬ (i : Int) < (N : Int) := by omega
      have HG : Hid (Own L lo hi o) := hide ((own_iff HU.out.2.2.1 h0 HLH.out h2).1 (fun s hs => hI.out s (by rw [List.take_of_length_le (by rw [HU.out.2.1]; omega)]; exact hs)))
      go_wp2
      go_ret
      exact ⟨⟨true, rfl, by simp; exact ⟨HLH.out, HG.out⟩⟩, HU.out.2.2.2⟩
end Go.Proofs.Ytbifmcadllilhaa.Rg
namespace Go.Proofs.Ytbifmcadllilhaa.Rg
open Go.RowKit Go.Shelf Go.Sort
open Go.Proofs.Ytbifmcadllilhaa.It
set_option linter.unusedVariables false
def cellsM (m : Mv) : List Value := [.int .u8 m.f, .int .u8 m.t, .int .u64 m.lo, .int .u64 m.hi, .int .i64 m.n]
structure MvAt (w : World) (b o : Nat) (m : Mv) : Prop where
  c0 : w.cell? ⟨b, o, none⟩ = some (.int .u8 m.f)
  c1 : w.cell? ⟨b, o + 1, none⟩ = some (.int .u8 m.t)
  c2 : w.cell? ⟨b, o + 2, none⟩ = some (.int .u64 m.lo)
  c3 : w.cell? ⟨b, o + 3, none⟩ = some (.int .u64 m.hi)
  c4 : w.cell? ⟨b, o + 4, none⟩ = some (.int .i64 m.n)
  fit : MvB m
/-- moves in memory -/
def Mvs (w : World) (u : Value) (ms : List Mv) : Prop := ∃ a cap, u = .slice a ms.length cap ∧ ∀ (i : Nat) m, ms[i]? = some m → ∃ b o, a = some ⟨b, o, none⟩ ∧ MvAt w b (o + i * 5) m
theorem MvAt.nu {w w' : World} {b o : Nat} {m : Mv} (h : MvAt w b o m) (k : Kp Nu w w') : MvAt w' b o m := ⟨cell_nu h.c0 k, cell_nu h.c1 k, cell_nu h.c2 k, cell_nu h.c3 k, cell_nu h.c4 k, h.fit⟩
theorem Mvs.nu {w w' : World} {u : Value} {ms : List Mv} (h : Mvs w u ms) (k : Kp Nu w w') : Mvs w' u ms := by
  obtain ⟨a, cap, h0, h1⟩ := h
  refine ⟨a, cap, h0, fun i m hm => ?_⟩
  obtain ⟨b, o, h2, h3⟩ := h1 i m hm
  exact ⟨b, o, h2, h3.nu k⟩
theorem Mvs.at_ {w : World} {a : Option Addr} {n cap : Nat} {ms : List Mv} (h : Mvs w (.slice a n cap) ms) {i : Nat} {m : Mv} (hm : ms[i]? = some m) : ∃ b o, a = some ⟨b, o, none⟩ ∧ MvAt w b (o + i * 5) m := by
  obtain ⟨a', cap', h0, h1⟩ := h
  simp only [Value.slice.injEq] at h0
  obtain ⟨rfl, _, _⟩ := h0
  exact h1 i m hm
theorem cell5 {w : World} {b : Nat} {x0 x1 x2 x3 x4 : Value} {t : TypeId} (h : w.heap[b]? = some (.cells #[x0, x1, x2, x3, x4] t (0, 0))) : w.cell? ⟨b, 0, none⟩ = some x0 ∧ w.cell? ⟨b, 1, none⟩ = some x1 ∧ w.cell? ⟨b, 2, none⟩ = some x2 ∧ w.cell? ⟨b, 3, none⟩ = some x3 ∧ w.cell? ⟨b, 4, none⟩ = some x4 := by
  refine ⟨?_, ?_, ?_, ?_, ?_⟩ <;> simp [World.cell?, h]
/-- what Play answers -/
def PlR (w w' : World) (M : List Sg) (ms : List Mv) (v : Value) (c : Int) : Prop :=
  (¬ Ldd M ∧ v = .slice none 0 0 ∧ c = 151) ∨ (Ldd M ∧ pl (lays [] M) ms = none ∧ v = .slice none 0 0 ∧ c = 152) ∨
  (Ldd M ∧ c = 0 ∧ ∃ R, pl (lays [] M) ms = some R ∧ R.length ≤ 16384 ∧ w'.ownsRow w.heap.size 82 3 v R.length (cells R))
open Classical in
theorem pl_yes {L : List Sg} {m : Mv} {r : List Mv} (h : Mok m ∧ Own L m.lo m.hi m.f) : pl L (m :: r) = pl (asg L m.lo m.hi m.t) r := by
  show (if _ then _ else _) = _
  rw [if_pos h]
open Classical in
theorem pl_no {L : List Sg} {m : Mv} {r : List Mv} (h : ¬ (Mok m ∧ Own L m.lo m.hi m.f)) : pl L (m :: r) = none := by
  show (if _ then _ else _) = _
  rw [if_neg h]
theorem asg_len {L : List Sg} (h : Tab L) {lo hi o : Int} (h0 : 0 ≤ lo) (h1 : lo ≤ hi) (h2 : hi < 18446744073709551616) (o0 : 0 ≤ o) (o1 : o < 16) : (asg L lo hi o).length ≤ L.length + 2 := by
  have a := (asg_facts h h0 h1 h2 o0 o1).2.2
  have b := cost_range h o h0 h1 h2
  omega
theorem Tab.sgb {L : List Sg} (h : Tab L) : ∀ s ∈ L, SgB s := fun s hs => by
  have a := cov_mem h.cov s hs
  have b := h.hs s hs
  exact ⟨by omega, by omega, by omega, by omega, b.1, by omega⟩
set_option maxRecDepth 100000 in
set_option maxHeartbeats 4000000 in
theorem rplay16 (w : World) (u k : Value) (M : List Sg) (ms : List Mv) (hM : Sgs w u M) (hlen : (M.length : Int) ≤ 5864062014634) (hk : Mvs w k ms) (hkl : ms.length ≤ 4096) :
    Calls Try.prog 16 #[u, k] w fun e w' => ∃ v c, e = .returned (.tuple #[v, .int .i64 c]) ∧ PlR w w' M ms v c ∧ Kp Nu w w' := by
  have mixed : Try.prog.follows .mixedOrders = true := by kernel_rfl
  have RL := refLoad_any w u M hM hlen 8192
  obtain ⟨ad, cap, hu⟩ := hM.slice
  obtain ⟨a1, c1, rfl, hdm⟩ := id hk
  clear hdm
  obtain ⟨N, eN⟩ : ∃ N, ms.length = N := ⟨_, rfl⟩
  have HU := hide (And.intro hM (And.intro hk eN))
  rw [eN] at hkl ⊢
  have hNI : (N : Int) ≤ 4096 := by omega
  generalize M.length = NM at hu
  subst hu
  clear hM hk eN hlen
  go_enter Try.func16, Try.ntmps16
  go_wp2_with fail
  refine RL.mono ?_; rintro e w2 ⟨L, v, f, rfl, hR, hk2⟩
  have HR := hide (And.intro hR hk2)
  have hvs : ∃ va vl vc, v = .slice va vl vc := by
    rcases hR with ⟨_, _, _, e⟩ | ⟨_, _, _, _, _, ⟨_, _, e⟩ | ⟨_, _, e⟩⟩
    · exact ⟨_, _, _, e⟩
    · exact ⟨_, _, _, e⟩
    · obtain ⟨q1, q2, q3⟩ := own_slice e
      exact ⟨_, _, _, q3⟩
  obtain ⟨va, vl, vc, rfl⟩ := hvs
  clear RL hR hk2
  by_cases hf : f = 0
  · subst hf
    have hd := (rrs_iff HR.out.1).1 rfl
    have ho : w2.ownsRow w.heap.size 82 3 (.slice va vl vc) (lays [] M).length (cells (lays [] M)) := by
      rcases HR.out.1 with ⟨h0, _⟩ | ⟨_, p, f', _, _, ⟨h3, _⟩ | ⟨_, _, ho⟩⟩
      · exact absurd (by omega) h0
      · exact absurd rfl h3
      · exact ho
    have tab := (lok_good hd.1 hd.2.1 HU.out.1.sgb).tab
    have HT := hide (And.intro ho (And.intro tab hd))
    clear ho tab hd
    go_wp2
    go_loopw [8, 9] (fun lv iv wr => ∃ (i ln : Nat) (la : Option Addr) (lc : Nat), iv = .int .i64 (i : Int) ∧ lv = .slice la ln lc ∧ i ≤ N ∧ Hid (∃ Li, pl (lays [] M) ms = pl Li (ms.drop i) ∧ Tab Li ∧ Li.length ≤ 8192 + 2 * i ∧ Li.length = ln ∧ wr.ownsRow w.heap.size 82 3 (.slice la ln lc) ln (cells Li) ∧ Kp Nu w wr)) (fun _ iv _ => N - (intOf iv).toNat)
    case atStart =>
      obtain ⟨ho, tab, hd⟩ := HT.out
      have hvl : (lays [] M).length = vl := by
        obtain ⟨q1, q2, q3⟩ := own_slice ho
        cases q3; rfl
      rw [hvl] at ho
      have kX := Kp.alloc w2 (.cells #[.int .i64 L, .slice va vl vc] 76) Nu
      exact ⟨0, vl, va, vc, rfl, rfl, Nat.zero_le _, hide ⟨lays [] M, rfl, tab, by have := hd.2.2; omega, hvl, own_keep ho (fun g e => kX.block g (own_lt ho e) (fun h => h)), HR.out.2.andNu kX⟩⟩
    case round =>
      obtain ⟨i, ln, la, lc, rfl, rfl, hi, hI⟩ := hrel
      have hi0 : (0 : Int) ≤ (i : Int) := by omega
      by_cases hlt : i < N
      · have hltI : (i : Int) < (N : Int) := by omega
        obtain ⟨m, hm⟩ : ∃ m, ms[i]? = some m := ⟨_, List.getElem?_eq_getElem (by rw [HU.out.2.2]; exact hlt)⟩
        obtain ⟨Li, hpl, tab, hll, hln, hown, hkp⟩ := hI.out
        have hms : Mvs wr (.slice a1 N c1) ms := by have h := HU.out.2.1; rw [HU.out.2.2] at h; exact h.nu hkp
        obtain ⟨b1, o1, rfl, hat⟩ := hms.at_ hm
        obtain ⟨x0, x1, x2, x3, x4, hf⟩ := hat
        have eti : (i : Int).toNat = i := by omega
        have hdr : ms.drop i = m :: ms.drop (i + 1) := by
          have hlt' := (List.getElem?_eq_some_iff.1 hm).1
          rw [List.drop_eq_getElem_cons hlt', (List.getElem?_eq_some_iff.1 hm).2]
        rw [hdr] at hpl
        have kA := Kp.alloc wr (.cells #[.int .u8 m.f, .int .u8 m.t, .int .u64 m.lo, .int .u64 m.hi, .int .i64 m.n] 59) Nu
        have bA := heap_alloc_new wr (.cells #[.int .u8 m.f, .int .u8 m.t, .int .u64 m.lo, .int .u64 m.hi, .int .i64 m.n] 59)
        have hownA := own_keep hown (fun g e => kA.block g (own_lt hown e) (fun h => h))
        have hsg : Sgs (wr.alloc (.cells #[.int .u8 m.f, .int .u8 m.t, .int .u64 m.lo, .int .u64 m.hi, .int .i64 m.n] 59)) (.slice la ln lc) Li := Sgs.of_own (B := w.heap.size) (by rw [hln]; exact hownA) tab.sgb
        have OW := rowns39 _ _ Li 0 hsg tab (by omega) m.lo m.hi m.f hf.l0 hf.h1
        obtain ⟨y0, y1, y2, y3, y4⟩ := cell5 bA
        have HP := hide (And.intro hpl (And.intro tab (And.intro hll (And.intro hln (And.intro hownA (And.intro (hkp.andNu kA) (And.intro hf (And.intro bA hsg))))))))
        obtain ⟨f0, f1, t0, t1, l0, l1, h0, h1⟩ := hf
        clear hI hpl tab hll hln hown hkp hms hm hdr kA bA hownA hsg
        go_wp2_with fail
        refine OW.mono ?_; rintro e w4 ⟨⟨ob, rfl, hob⟩, hk4⟩
        have HOB := hide hob
        have bB := box2 HP.out.2.2.2.2.2.2.2.1 hk4
        obtain ⟨z0, z1, z2, z3, z4⟩ := cell5 bB
        have HK2 := hide (HP.out.2.2.2.2.2.1.andNu hk4)
        have HK4 := hide hk4
        clear OW hob bB hk4 y0 y1 y2 y3 y4
        by_cases q1 : m.lo > m.hi
        · have d1 : decide (m.lo > m.hi) = true := by simpa using q1
          have HNO : Hid (pl (lays [] M) ms = none) := hide (HP.out.1.trans (pl_no (fun h => by have := h.1.1; omega)))
          clear q1
          go_wp2
          go_ret2
          exact ⟨_, _, rfl, .inr (.inl ⟨HT.out.2.2, HNO.out, rfl, rfl⟩), HK2.out⟩
        have d1 : decide (m.lo > m.hi) = false := by simpa using q1
        by_cases q2 : m.f > 15
        · have d2 : decide (m.f > 15) = true := by simpa using q2
          have HNO : Hid (pl (lays [] M) ms = none) := hide (HP.out.1.trans (pl_no (fun h => by have := h.1.2.1; omega)))
          clear q1 q2
          go_wp2
          go_ret2
          exact ⟨_, _, rfl, .inr (.inl ⟨HT.out.2.2, HNO.out, rfl, rfl⟩), HK2.out⟩
        have d2 : decide (m.f > 15) = false := by simpa using q2
        by_cases q3 : m.t > 15
        · have d3 : decide (m.t > 15) = true := by simpa using q3
          have HNO : Hid (pl (lays [] M) ms = none) := hide (HP.out.1.trans (pl_no (fun h => by have := h.1.2.2.1; omega)))
          clear q1 q2 q3
          go_wp2
          go_ret2
          exact ⟨_, _, rfl, .inr (.inl ⟨HT.out.2.2, HNO.out, rfl, rfl⟩), HK2.out⟩
        have d3 : decide (m.t > 15) = false := by simpa using q3
        by_cases q4 : m.f = m.t
        · have d4 : (m.f == m.t) = true := by simpa using q4
          have HNO : Hid (pl (lays [] M) ms = none) := hide (HP.out.1.trans (pl_no (fun h => h.1.2.2.2 q4)))
          clear q1 q2 q3 q4
          go_wp2
          go_ret2
          exact ⟨_, _, rfl, .inr (.inl ⟨HT.out.2.2, HNO.out, rfl, rfl⟩), HK2.out⟩
        have d4 : (m.f == m.t) = false := by simpa using q4
        cases ob with
        | false =>
          have HNO : Hid (pl (lays [] M) ms = none) := hide (HP.out.1.trans (pl_no (fun h => by have := HOB.out.2 ⟨h.1.1, h.2⟩; cases this)))
          clear q1 q2 q3 q4
          go_wp2
          go_ret2
          exact ⟨_, _, rfl, .inr (.inl ⟨HT.out.2.2, HNO.out, rfl, rfl⟩), HK2.out⟩
        | true =>
          have hO := HOB.out.1 rfl
          have hok : Mok m ∧ Own Li m.lo m.hi m.f := ⟨⟨hO.1, by omega, by omega, q4⟩, hO.2⟩
          have hpl2 := HP.out.1.trans (pl_yes hok)
          have af := asg_facts HP.out.2.1 l0 hO.1 h1 t0 (by omega : m.t < 16)
          have hal := asg_len HP.out.2.1 l0 hO.1 h1 t0 (by omega : m.t < 16)
          have hce := cut_asg HP.out.2.1 l0 hO.1 h1 t0 (by omega : m.t < 16) hO.2
          have CU := cut40 w4 (.slice la ln lc) Li m.lo m.hi m.t (HP.out.2.2.2.2.2.2.2.2.nu HK4.out) (by have := HP.out.2.2.1; omega) ⟨l0, l1⟩ ⟨h0, h1⟩
          rw [hce] at CU
          have H5 := hide (And.intro hpl2 (And.intro af.1 hal))
          clear hO hok hpl2 af hal hce q1 q2 q3 q4
          go_wp2_with fail
          refine CU.mono ?_; rintro e w5 ⟨u5, rfl, ho5, hk5⟩
          obtain ⟨ua, uc, rfl⟩ := own_slice ho5
          have H6 := hide (And.intro (own_base ho5 HK2.out.size) (HK2.out.andNu hk5))
          clear CU ho5 hk5
          go_wp2
          refine ⟨⟨i + 1, _, ua, uc, by go_num, rfl, by omega, hide ⟨_, H5.out.1, H5.out.2.1, by have := H5.out.2.2; have := HP.out.2.2.1; omega, rfl, H6.out.1, H6.out.2⟩⟩, by simp [intOf]; omega⟩
      · have hge : ¬ (i : Int) < (N : Int) := by omega
        obtain ⟨Li, hpl, tab, hll, hln, hown, hkp⟩ := hI.out
        have e0 : ms.drop i = [] := List.drop_eq_nil_of_le (by rw [HU.out.2.2]; omega)
        rw [e0] at hpl
        have HO := hide (And.intro hpl (And.intro hll (And.intro hln (And.intro hown hkp))))
        clear hI hpl tab hll hln hown hkp e0
        go_wp2
        go_ret2
        refine ⟨_, _, rfl, .inr (.inr ⟨HT.out.2.2, rfl, Li, HO.out.1, by have := HO.out.2.1; omega, ?_⟩), HO.out.2.2.2.2⟩
        rw [HO.out.2.2.1]
        exact HO.out.2.2.2.1
  · have HF := hide hf
    have hfb : (f != 0) = true := by simpa using hf
    clear hf
    go_wp2
    go_ret2
    exact ⟨_, _, rfl, .inl ⟨fun h => HF.out ((rrs_iff HR.out.1).2 h), rfl, rfl⟩, HR.out.2.andAlloc _⟩
end Go.Proofs.Ytbifmcadllilhaa.Rg
