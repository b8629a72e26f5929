import Derived.Test.YthajboipnjjgfaaLyC
namespace Go.Proofs.Ythajboipnjjgfaa.Ly
open Go.RowKit Go.Maps
set_option linter.unusedVariables false

section
variable {B b bm nb : Nat} {w w' : World} {room : Int} {D : DataW Unit} {v : Value} {c : Ct} {L : List Gm}

theorem own_base {w : World} {base base' e size n : Nat} {v : Value} {l : List Value} (h : w.ownsRow base e size v n l) (hb : base' ≤ base) : w.ownsRow base' e size v n l := by
  obtain ⟨hl, ho⟩ := h
  refine ⟨hl, ?_⟩
  rcases ho with ho | ⟨g, cap, cur, e1, e2, e3⟩
  · exact .inl ho
  · exact .inr ⟨g, cap, cur, e1, Nat.le_trans hb e2, e3⟩
theorem own_set {w : World} {base e size n : Nat} {v u : Value} {l : List Value} {a : Addr} (h : w.ownsRow base e size v n l) (hb : a.block < base) : (w.setCell a u).ownsRow base e size v n l :=
  own_keep h (fun g hg => (Kp.setCell w a u).block g (own_lt h hg) (fun e => by
    have e : g = a.block := e
    rcases h.2 with ⟨rfl, _⟩ | ⟨g', cap, cur, rfl, hb', _⟩
    · cases hg
    · simp [Value.ownBlock] at hg; omega))

set_option maxHeartbeats 400000 in
theorem copied_any (w : World) (f t : Int) (d : Value) (ys : List Int) (h : Rd w d ys) (hy : ys.length ≤ 1024) (hy0 : 0 < ys.length) :
    Calls Try.prog 46 #[.agg #[.int .u8 f, .int .u8 t, d]] w fun e w' => ∃ a n cap, e = .returned (.agg #[.int .u8 f, .int .u8 t, .slice (some a) n cap]) ∧ w'.ownsRow w.heap.size 5 1 (.slice (some a) n cap) ys.length (cs ys) ∧ Kp Nu w w' := by
  obtain ⟨ad, cap, hd⟩ := h.slice
  have CL : Calls Try.prog 59 #[d] ((w.alloc (.cells #[.int .u8 f, .int .u8 t, d] 38)).alloc (.cells #[.int .u8 0, .int .u8 0, .slice none 0 0] 38)) fun e w2 => ∃ a n cap, e = .returned (.slice (some a) n cap) ∧ Hid (w2.ownsRow (w.heap.size + 2) 5 1 (.slice (some a) n cap) ys.length (cs ys) ∧ Kp Nu w w2) ∧ w2.heap[w.heap.size]? = some (.cells #[.int .u8 f, .int .u8 t, d] 38 (0, 0)) ∧ w2.heap[w.heap.size + 1]? = some (.cells #[.int .u8 0, .int .u8 0, .slice none 0 0] 38 (0, 0)) := by
    refine (clone_any _ d ys (h.nu ((Kp.alloc w _ Nu).andAlloc _)) hy hy0).mono ?_
    rintro e w2 ⟨d', rfl, ho, hk⟩
    rcases ho.2 with ⟨_, h0⟩ | ⟨g, cap, cur, rfl, _⟩
    · omega
    · refine ⟨_, _, _, rfl, ⟨by simpa using ho, ((Kp.alloc w _ Nu).andAlloc _).andNu hk⟩, new_at w _ ((Kp.alloc _ _ Nu).andNu hk), ?_⟩
      have := new_at _ _ hk
      simpa using this
  generalize ys.length = N at *
  subst hd
  go_enter Try.func46, Try.ntmps46
  go_wp2_with fail
  refine CL.mono ?_; rintro e w2 ⟨a, n, cp, rfl, hH, hb1, hb2⟩
  obtain ⟨c0, c1, c2⟩ := cell3 hb1
  obtain ⟨d0, d1, d2⟩ := cell3 hb2
  have f2 := free3 hb1 2
  have g0 := free3 hb2 0
  have g1 := free3 hb2 1
  have g2 := free3 hb2 2
  clear CL hb1 hb2
  go_wp2
  refine bodyPost_ret (v := .agg #[.int .u8 f, .int .u8 t, .slice (some a) n cp]) (by simp [results, Try.results46, go_sem, d0, d1, d2]) rfl ⟨_, _, _, rfl, ?_, ?_⟩
  · have := hH.out.1
    exact own_base (own_set (own_set (own_set (own_set this (by simp)) (by simp)) (by simp)) (by simp)) (by omega)
  · have := hH.out.2
    exact (((this.andSet _ _ (.inl (by simp))).andSet _ _ (.inl (by simp))).andSet _ _ (.inl (by simp))).andSet _ _ (.inl (by simp))
end
end Go.Proofs.Ythajboipnjjgfaa.Ly
