import Derived.Test.YtbifmcadllilhaaPdH
namespace Go.Proofs.Ytbifmcadllilhaa.Rg
open Go.RowKit Go.Shelf Go.Sort
open Go.Proofs.Ytbifmcadllilhaa.It
attribute [local go_sem] Oper.semAt_some
set_option linter.unusedVariables false
/-- a stretch -/
structure St where
  sg : Sg
  a : Option Addr
  n : Nat
  c : Nat
def cellsS (s : St) : List Value := [.int .u64 s.sg.lo, .int .u64 s.sg.hi, .int .u8 s.sg.h, .slice s.a s.n s.c]
def cellsT (l : List St) : List Value := l.flatMap cellsS
theorem cellsT_snoc (l : List St) (s : St) : cellsT (l ++ [s]) = cellsT l ++ cellsS s := by simp [cellsT]
theorem cellsT_at : ∀ (l : List St) (k : Nat) (x : St), l[k]? = some x → ∀ j, j < 4 → (cellsT l)[k * 4 + j]? = (cellsS x)[j]?
  | [], k, x, h, j, _ => by simp at h
  | a :: l, 0, x, h, j, hj => by
    simp at h; subst h
    simp only [cellsT, List.flatMap_cons, Nat.zero_mul, Nat.zero_add]
    rw [List.getElem?_append_left (by simp [cellsS]; omega)]
  | a :: l, k + 1, x, h, j, hj => by
    have ih := cellsT_at l k x (by simpa using h) j hj
    simp only [cellsT, List.flatMap_cons]
    rw [List.getElem?_append_right (by simp [cellsS]; omega)]
    have : (k + 1) * 4 + j - (cellsS a).length = k * 4 + j := by simp [cellsS]; omega
    rw [this]; exact ih
theorem row4_at {w : World} {B : Nat} {v : Value} {l : List St} (h : w.ownsRow B 129 4 v l.length (cellsT l)) {i : Nat} {s : St} (hi : l[i]? = some s) : ∃ r cap, v = .slice (some ⟨r, 0, none⟩) l.length cap ∧ w.cell? ⟨r, i * 4, none⟩ = some (.int .u64 s.sg.lo) ∧ w.cell? ⟨r, i * 4 + 1, none⟩ = some (.int .u64 s.sg.hi) ∧ w.cell? ⟨r, i * 4 + 2, none⟩ = some (.int .u8 s.sg.h) ∧ w.cell? ⟨r, i * 4 + 3, none⟩ = some (.slice s.a s.n s.c) := by
  have hlt : i < l.length := (List.getElem?_eq_some_iff.1 hi).1
  rcases h.2 with ⟨_, h0⟩ | ⟨r, cap, cur, e, hB, hg, h1, h2, h3, h4⟩
  · omega
  · have key : ∀ j, j < 4 → cur[i * 4 + j]? = (cellsS s)[j]? := by
      intro j hj
      have e1 := cellsT_at l i s hi j hj
      rw [← h4, List.getElem?_take_of_lt (by omega)] at e1
      simpa using e1
    refine ⟨r, cap, e, ?_, ?_, ?_, ?_⟩
    · have := key 0 (by omega)
      simpa [World.cell?, hg, cellsS] using this
    · have := key 1 (by omega)
      simpa [World.cell?, hg, cellsS] using this
    · have := key 2 (by omega)
      simpa [World.cell?, hg, cellsS] using this
    · have := key 3 (by omega)
      simpa [World.cell?, hg, cellsS] using this
/-- the loads of stretches -/
def sl (l : List St) (h : Nat) : Int := sm (l.map (·.sg)) (l.map (·.n)) h
theorem sl_snoc (l : List St) (s : St) (h : Nat) : sl (l ++ [s]) h = sl l h + (if s.sg.h = (h : Int) then (s.n : Int) else 0) := by
  unfold sl
  rw [List.map_append, List.map_append]
  exact sm_snoc _ _ _ _ _ (by simp)
theorem sl_bound : ∀ (l : List St) (h : Nat), (∀ s ∈ l, s.n ≤ 17592186044416) → 0 ≤ sl l h ∧ sl l h ≤ (l.length : Int) * 17592186044416
  | [], h, _ => by simp [sl, sm]
  | s :: l, h, hb => by
    have ih := sl_bound l h (fun x hx => hb x (by simp [hx]))
    have h1 := hb s (by simp)
    have e : sl (s :: l) h = (if s.sg.h = (h : Int) then (s.n : Int) else 0) + sl l h := rfl
    rw [e, List.length_cons]
    split <;> omega
set_option maxRecDepth 100000 in
set_option maxHeartbeats 2000000 in
theorem loadsOf43 (w : World) (B n : Nat) (v : Value) (l : List St) (ho : w.ownsRow B 129 4 v l.length (cellsT l)) (h1 : n ≤ 16) (hh : ∀ s ∈ l, 0 ≤ s.sg.h ∧ s.sg.h < (n : Int)) (hl : l.length ≤ 8192) (hb : ∀ s ∈ l, s.n ≤ 17592186044416) :
    Calls Try.prog 43 #[.int .i64 (n : Int), v] w fun e w' => ∃ g, e = .returned (.slice (some ⟨g, 0, none⟩) n n) ∧ w'.ownsRow w.heap.size 3 1 (.slice (some ⟨g, 0, none⟩) n n) n ((List.range n).map (fun q => Value.int .i64 (sl l q))) ∧ Kp Nu w w' := by
  have mixed : Try.prog.follows .mixedOrders = true := by kernel_rfl
  obtain ⟨va, vc, rfl⟩ := own_slice ho
  obtain ⟨N, eN⟩ : ∃ N, l.length = N := ⟨_, rfl⟩
  have HU := hide (And.intro ho (And.intro eN (And.intro hh hb)))
  rw [eN] at hl ⊢
  have hNI : (N : Int) ≤ 8192 := by omega
  have hnI : (n : Int) ≤ 16 := by omega
  clear ho eN hh hb hl
  obtain ⟨z0, hzi, hz0, hz1, hz2⟩ := info_parts Pn.info3z
  go_enter Try.func43, Try.ntmps43
  go_wp2_with (at_make; refine wpList_make_full _ rfl _ _ 22 rfl w.heap.size 3 z0 _ 1 Try.underlying22 hzi hz0 hz1 _ _ _ _ n rfl rfl rfl rfl (by rw [hz2]; omega) (by unfold maxLen; omega) (Nat.le_refl _) ?_; intro w4 hrow4 hgr4)
  have H4 := hide (And.intro (Pn.hq_zero hrow4) ((Kp.of_grown hgr4).mono (T := Nu) (fun _ _ e => by cases e)))
  clear hrow4 hgr4
  go_wp2
  go_loopw [12] (fun iv wr => ∃ i : Nat, iv = .int .i64 (i : Int) ∧ i ≤ N ∧ Hid (Pn.Hq wr w.heap.size n (fun q => q < n) (sl (l.take i)) ∧ Kp Nu w wr)) (fun iv _ => N - (intOf iv).toNat)
  case atStart => exact ⟨0, rfl, Nat.zero_le _, hide ⟨H4.out.1.ext (fun q _ => by simp [sl, sm]), H4.out.2⟩⟩
  case round =>
    obtain ⟨i, rfl, hi, hI⟩ := hrel
    have hi0 : (0 : Int) ≤ (i : Int) := by omega
    by_cases hlt : i < N
    · have hltI : (i : Int) < (N : Int) := by omega
      obtain ⟨s, hs⟩ : ∃ s, l[i]? = some s := ⟨_, List.getElem?_eq_getElem (by rw [HU.out.2.1]; exact hlt)⟩
      obtain ⟨r, cap, e, x0, x1, x2, x3⟩ := row4_at HU.out.1 hs
      simp only [Value.slice.injEq] at e
      obtain ⟨rfl, e1, e2⟩ := e
      replace x0 := cell_nu x0 hI.out.2
      replace x1 := cell_nu x1 hI.out.2
      replace x2 := cell_nu x2 hI.out.2
      replace x3 := cell_nu x3 hI.out.2
      have eti : (i : Int).toNat = i := by omega
      have hsm := List.mem_of_getElem? hs
      have hsh := HU.out.2.2.1 s hsm
      have hsn := HU.out.2.2.2 s hsm
      have htk : l.take (i + 1) = l.take i ++ [s] := by rw [List.take_add_one, hs]; rfl
      obtain ⟨q, hq⟩ : ∃ q : Nat, s.sg.h = (q : Int) := ⟨s.sg.h.toNat, by omega⟩
      have hqn : q < n := by omega
      have hqI : (q : Int) < (n : Int) := by omega
      have hq0 : (0 : Int) ≤ (q : Int) := by omega
      have etq : (q : Int).toNat = q := by omega
      rw [hq] at x2
      obtain ⟨sa, sn, sc, e3⟩ : ∃ sa sn sc, Value.slice s.a s.n s.c = .slice sa sn sc ∧ s.n = sn := ⟨_, _, _, rfl, rfl⟩
      rw [e3.1] at x3
      obtain ⟨c, hc⟩ : ∃ c, sl (l.take i) q = c := ⟨_, rfl⟩
      have kA := Kp.alloc wr (.cells #[.int .u64 s.sg.lo, .int .u64 s.sg.hi, .int .u8 (q : Int), .slice sa sn sc] 129) Nu
      have hqA := hI.out.1.nu kA.toPn
      have y1 := hqA.at_ hqn
      rw [hc] at y1
      have hf := hqA.free q
      have hbd := sl_bound (l.take i) q (fun x hx => HU.out.2.2.2 x (List.mem_of_mem_take hx))
      rw [hc, List.length_take] at hbd
      have ew : IntKind.i64.wrap (c + (sn : Int)) = c + (sn : Int) := by have := e3.2; rw [IntKind.wrap_i64]; omega
      have HX := hide (And.intro hs (And.intro htk (And.intro hq (And.intro hc (And.intro e3.2 (And.intro hqA (hI.out.2.andNu kA)))))))
      clear hs htk hq hc e3 hsm hsh hsn e1 e2 hbd hqA kA
      go_wp2_with fail
      go_region
      go_wp2
      refine ⟨⟨i + 1, by go_num, by omega, hide ⟨?_, (HX.out.2.2.2.2.2.2.andSet _ _ (.inl (Nat.le_refl _))).drew⟩⟩, by simp [intOf]; omega⟩
      have e1 : c + (sn : Int) = sl (l.take (i + 1)) q := by rw [HX.out.2.1, sl_snoc, HX.out.2.2.2.1, if_pos HX.out.2.2.1, HX.out.2.2.2.2.1]
      rw [e1]
      refine (HX.out.2.2.2.2.2.1.set (f' := sl (l.take (i + 1))) hqn (fun p hp => .inr hp) (fun p hp _ => ?_)).nu (Pn.kp_drawn _)
      rw [HX.out.2.1, sl_snoc, if_neg (by have := HX.out.2.2.1; omega), Int.add_zero]
    · have hge : ¬ (i : Int) < (N : Int) := by omega
      obtain rfl : N = i := by omega
      go_wp2
      go_ret
      refine ⟨_, rfl, hI.out.1.own (fun q hq => hq) (Nat.le_refl _) h1 _ ?_, hI.out.2⟩
      rw [← HU.out.2.1, List.take_length]
end Go.Proofs.Ytbifmcadllilhaa.Rg
