import Derived.Test.YthajboipnjjgfaaBaA
namespace Go.Proofs.Ythajboipnjjgfaa.Ly
open Go.RowKit Go.Maps
set_option linter.unusedVariables false

def BInv (w wr : World) (b bm : Nat) (room k : Int) : Prop := ∃ (nb : Nat) (D : DataW Unit) (v : Value) (c : Ct) (L : List Gm), (nb : Int) ≤ k ∧ Inv c L k ∧ Nt w.heap.size wr b bm nb room D v c L ∧ Kp Nu w wr

/-- a list that was told, beside the network -/
structure Tl (wx : World) (b bm : Nat) (v : Value) (Bb : Nat) (ul : Value) (Lb L : List Gm) : Prop where
  row : wx.ownsRow Bb 38 3 ul Lb.length (cells Lb)
  told : Told wx Bb Lb L
  dis : ∀ i, ul.ownBlock = some i → ¬ fp b bm v i
theorem Tl.nu {wx w' : World} {b bm : Nat} {v : Value} {Bb : Nat} {ul : Value} {Lb L : List Gm} (h : Tl wx b bm v Bb ul Lb L) (k : Kp Nu wx w') : Tl w' b bm v Bb ul Lb L :=
  ⟨own_keep h.row (fun g hg => k.block g (own_lt h.row hg) (fun h => h)), h.told.keep (fun i cur hi => k.block i (blk_lt hi) (fun h => h)), h.dis⟩
theorem Tl.fr {wx w' : World} {B b bm nb : Nat} {room : Int} {D : DataW Unit} {v v' : Value} {c : Ct} {L' : List Gm} {Bb : Nat} {ul : Value} {Lb L : List Gm} (h : Tl wx b bm v Bb ul Lb L) (hN : Nt B wx b bm nb room D v c L') (hF : Fr b bm v wx w' v') : Tl w' b bm v' Bb ul Lb L := by
  refine ⟨own_keep h.row (fun g hg => hF.kp.block g (own_lt h.row hg) (h.dis g hg)), h.told.keep (fun i cur hi => hF.kp.block i (blk_lt hi) (hN.byte hi)), fun i hi => ?_⟩
  rintro (e | e | e)
  · exact h.dis i hi (.inl e)
  · exact h.dis i hi (.inr (.inl e))
  · rcases hF.lie with hl | ⟨g, hg, hl⟩
    · exact h.dis i hi (.inr (.inr (e.trans hl)))
    · rw [hl] at e
      cases e
      have := own_lt h.row hi
      omega
theorem Tl.at {wx : World} {b bm : Nat} {v : Value} {Bb M : Nat} {ad : Option Addr} {cap : Nat} {Lb L : List Gm} (h : Tl wx b bm v Bb (.slice ad M cap) Lb L) {q : Nat} {g : Gm} (hg : L[q]? = some g) :
    ∃ r d, ad = some ⟨r, 0, none⟩ ∧ wx.cell? ⟨r, q * 3, none⟩ = some (.int .u8 g.f) ∧ wx.cell? ⟨r, q * 3 + 1, none⟩ = some (.int .u8 g.t) ∧ wx.cell? ⟨r, q * 3 + 2, none⟩ = some d ∧ wx.ownsRow Bb 5 1 d g.ys.length (cs g.ys) ∧ g.ys.length ≤ 1024 := by
  have hl : (Lb.map bare)[q]? = (L.map bare)[q]? := by rw [h.told.same]
  rw [List.getElem?_map, List.getElem?_map, hg] at hl
  cases hb : Lb[q]? with
  | none => rw [hb] at hl; simp at hl
  | some gb =>
    rw [hb] at hl
    simp [bare] at hl
    obtain ⟨e1, e2, e3⟩ := hl
    obtain ⟨r, cp, hv, x0, x1, x2⟩ := row_at h.row hb
    simp only [Value.slice.injEq] at hv
    have hD := h.told.dat gb (List.mem_of_getElem? hb)
    refine ⟨r, gb.d, hv.1, by rw [← e1]; exact x0, by rw [← e2]; exact x1, x2, ?_⟩
    rw [← e3]; exact ⟨hD.own, hD.le⟩

theorem row_rd {w W : World} {B n : Nat} {v : Value} {ys : List Int} (h : w.ownsRow B 5 1 v n (cs ys)) (k : Kp Nu w W) : Rd W v ys :=
  Rd.of_own (own_keep h (fun i hi => k.block i (own_lt h hi) (fun h => h)))

/-- the network with the list L, beside what was told of it -/
structure Bk (w wx : World) (b bm nb : Nat) (D : DataW Unit) (Bb : Nat) (ul : Value) (Lb L0 : List Gm) (v : Value) (c : Ct) (L : List Gm) (k : Int) : Prop where
  nt : Nt w.heap.size wx b bm nb 4096 D v c L
  cok : Cok c k
  kp : Kp Nu w wx
  tl : Tl wx b bm v Bb ul Lb L0
theorem Bk.nu {w wx w' : World} {b bm nb : Nat} {D : DataW Unit} {Bb : Nat} {ul : Value} {Lb L0 : List Gm} {v : Value} {c : Ct} {L : List Gm} {k : Int} (h : Bk w wx b bm nb D Bb ul Lb L0 v c L k) (q : Kp Nu wx w') : Bk w w' b bm nb D Bb ul Lb L0 v c L k :=
  ⟨h.nt.nu q, h.cok, h.kp.andNu q, h.tl.nu q⟩
theorem Bk.fr {w wx w' : World} {b bm nb nb' : Nat} {D D' : DataW Unit} {Bb : Nat} {ul : Value} {Lb L0 : List Gm} {v v' : Value} {c c' : Ct} {L L' : List Gm} {k k' : Int} (h : Bk w wx b bm nb D Bb ul Lb L0 v c L k) (hN : Nt w.heap.size w' b bm nb' 4096 D' v' c' L') (hF : Fr b bm v wx w' v') (hc : Cok c' k') : Bk w w' b bm nb' D' Bb ul Lb L0 v' c' L' k' :=
  ⟨hN, hc, h.nt.step h.kp hF, h.tl.fr h.nt hF⟩
theorem Cok.up {c : Ct} {k : Int} (h : Cok c k) : Cok { c with d := c.d + 1, c := c.c + 1 } (k + 1) ∧ Cok { c with b := c.b + 1 } (k + 1) ∧ Cok { c with d := c.d + 1 } (k + 1) := by
  obtain ⟨q1, q2, q3, q4, q5, q6, q7, q8, q9, q10, q11, q12, q13, q14⟩ := h
  refine ⟨?_, ?_, ?_⟩ <;> constructor <;> simp <;> omega

section
variable {w wx : World} {b bm nb : Nat} {D : DataW Unit} {Bb : Nat} {ul : Value} {Lb L0 : List Gm} {v : Value} {c : Ct} {L : List Gm} {k : Int}
theorem bk_keep (h : Bk w wx b bm nb D Bb ul Lb L0 v c L k) (hk : k ≤ 1000000) (p : Nat) {g : Gm} (hg : L[p]? = some g) (hb : bar D g.f g.t = false) :
    Calls Try.prog 25 #[.pointer (some ⟨b, 0, none⟩), .int .i64 (p : Int), .bool true] wx fun e w' => ∃ a n cap, e = .returned (.tuple #[.agg #[.int .u8 g.f, .int .u8 g.t, .slice (some a) n cap], .int .i64 0]) ∧ ∃ c', Bk w w' b bm nb D Bb ul Lb L0 v c' L (k + 1) := by
  refine (deliver_keep h.nt p hg hb (h.cok.mono (by omega))).mono ?_
  rintro e w2 ⟨a, n, cap, rfl, hO, hN2, hF⟩
  exact ⟨_, _, _, rfl, _, h.fr hN2 hF h.cok.up.1⟩
theorem bk_bar (h : Bk w wx b bm nb D Bb ul Lb L0 v c L k) (p : Nat) {g : Gm} (hg : L[p]? = some g) (hb : bar D g.f g.t = true) :
    Calls Try.prog 25 #[.pointer (some ⟨b, 0, none⟩), .int .i64 (p : Int), .bool true] wx fun e w' => e = .returned (.tuple #[.agg #[.int .u8 0, .int .u8 0, .slice none 0 0], .int .i64 53]) ∧ ∃ c', Bk w w' b bm nb D Bb ul Lb L0 v c' L (k + 1) := by
  refine (deliver_bar h.nt p true hg hb).mono ?_
  rintro e w2 ⟨rfl, hk2⟩
  have h2 := h.nu hk2
  exact ⟨rfl, c, ⟨h2.nt, h2.cok.mono (by omega), h2.kp, h2.tl⟩⟩
theorem bk_take (h : Bk w wx b bm nb D Bb ul Lb L0 v c L k) (hk : k ≤ 1000000) (p : Nat) {g : Gm} (hg : L[p]? = some g) (hb : bar D g.f g.t = false) :
    Calls Try.prog 25 #[.pointer (some ⟨b, 0, none⟩), .int .i64 (p : Int), .bool false] wx fun e w' => ∃ a n cap, e = .returned (.tuple #[.agg #[.int .u8 g.f, .int .u8 g.t, .slice (some a) n cap], .int .i64 0]) ∧ Out w' wx.heap.size g a n cap ∧ ∃ v' c', Bk w w' b bm nb D Bb ul Lb L0 v' c' (cut L p) (k + 1) := by
  refine (deliver_take h.nt p hg hb (h.cok.mono (by omega))).mono ?_
  rintro e w2 ⟨a, n, cap, rfl, hO, v', hN2, hF⟩
  exact ⟨_, _, _, rfl, hO, v', _, h.fr hN2 hF h.cok.up.2.2⟩
theorem nine_rd (w : World) : Rd (w.alloc (.cells #[.int .u8 9] 5)) (.slice (some ⟨w.heap.size, 0, none⟩) 1 1) [9] := by
  refine .inr ⟨_, _, rfl, fun j x hj => ?_⟩
  have := heap_alloc_new w (.cells #[.int .u8 9] 5)
  rw [Addr.add_lit]
  simp only [World.cell?, this]
  simpa [cs] using hj
theorem bk_send (h : Bk w wx b bm nb D Bb ul Lb L0 v c L k) (hk : k ≤ 1000000) (f t : Int) (f0 : 0 ≤ f) (hf : f < 33) (t0 : 0 ≤ t) (t1 : t < 256) (hb : bar D f t = true) :
    Calls Try.prog 16 #[.pointer (some ⟨b, 0, none⟩), .int .u8 f, .int .u8 t, .slice (some ⟨wx.heap.size, 0, none⟩) 1 1] (wx.alloc (.cells #[.int .u8 9] 5)) fun e w' => e = .returned (.int .i64 53) ∧ ∃ v' c', Bk w w' b bm nb D Bb ul Lb L0 v' c' L (k + 1) := by
  have h2 := h.nu (Kp.alloc wx (.cells #[.int .u8 9] 5) Nu)
  refine (send_in h2.nt f t f0 hf t0 t1 _ [9] (nine_rd wx) (h2.cok.mono (by omega))).mono ?_
  rintro e w2 ⟨code, c', v', L', rfl, hE, hN, hF⟩
  rcases hE with ⟨rfl, hy, _, _⟩ | ⟨_, _, ⟨rfl, hb', rfl, rfl⟩ | ⟨rfl, hb', _⟩ | ⟨rfl, hb', _⟩⟩
  · simp at hy
  · exact ⟨rfl, v', _, h2.fr hN hF h2.cok.up.2.1⟩
  · rw [hb] at hb'; cases hb'
  · rw [hb] at hb'; cases hb'
theorem bk_inject (h : Bk w wx b bm nb D Bb ul Lb L0 v c L k) (hk : k ≤ 1000000) (f t : Int) (hf : 33 ≤ f) (f1 : f < 256) (t0 : 0 ≤ t) (t1 : t < 256) (hb : bar D f t = true) :
    Calls Try.prog 34 #[.pointer (some ⟨b, 0, none⟩), .int .u8 f, .int .u8 t, .slice (some ⟨wx.heap.size, 0, none⟩) 1 1] (wx.alloc (.cells #[.int .u8 9] 5)) fun e w' => e = .returned (.int .i64 53) ∧ ∃ v' c', Bk w w' b bm nb D Bb ul Lb L0 v' c' L (k + 1) := by
  have h2 := h.nu (Kp.alloc wx (.cells #[.int .u8 9] 5) Nu)
  refine (inject_out h2.nt f t hf f1 t0 t1 _ [9] (nine_rd wx) (h2.cok.mono (by omega))).mono ?_
  rintro e w2 ⟨code, c', v', L', rfl, hE, hN, hF⟩
  rcases hE with ⟨rfl, hy, _, _⟩ | ⟨_, _, ⟨rfl, hb', rfl, rfl⟩ | ⟨rfl, hb', _⟩ | ⟨rfl, hb', _⟩⟩
  · simp at hy
  · exact ⟨rfl, v', _, h2.fr hN hF h2.cok.up.2.1⟩
  · rw [hb] at hb'; cases hb'
  · rw [hb] at hb'; cases hb'
theorem bk_heal (h : Bk w wx b bm nb D Bb ul Lb L0 v c L k) (hnb : (nb : Int) ≤ 5000) (f t : Int) (f0 : 0 ≤ f) (f1 : f < 256) (t0 : 0 ≤ t) (t1 : t < 256) {x : Int} (hx : (if bar D f t then (1 : Int) else 0) = x) :
    Calls Try.prog 33 #[.pointer (some ⟨b, 0, none⟩), .int .i64 f, .int .i64 t] wx fun e w' => e = .returned (.int .i64 x) ∧ ∃ D', bar D' f t = false ∧ Bk w w' b bm nb D' Bb ul Lb L0 v c L k := by
  refine (heal_one h.nt f t f0 f1 t0 t1 (by omega)).mono ?_
  rintro e w2 ⟨rfl, D', hb, hN, hF⟩
  exact ⟨by rw [hx], D', hb, h.fr hN hF h.cok⟩
end

end Go.Proofs.Ythajboipnjjgfaa.Ly
