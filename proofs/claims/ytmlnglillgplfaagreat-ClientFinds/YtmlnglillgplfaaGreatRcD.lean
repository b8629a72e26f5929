import Derived.Test.YtmlnglillgplfaaGreatRcC
import Derived.Test.YtmlnglillgplfaaGreatLs
import Derived.Test.YtmlnglillgplfaaGreatSmB
import Derived.Deep.RegionHeld3
namespace Go.Proofs.YtmlnglillgplfaaGreat.Cl
open Go.RowKit
set_option linter.unusedVariables false
/-- bytes at a slice -/
structure Ct (w : World) (s : Sl) (ys : List Int) : Prop where
  rd : Rd w s.val ys
  by_ : Byt ys
  n : s.n = ys.length
theorem Ct.nu {w w' : World} {s : Sl} {ys : List Int} (h : Ct w s ys) (k : Kp Nu w w') : Ct w' s ys := ⟨h.rd.nu k, h.by_, h.n⟩
theorem Ct.nil (w : World) : Ct w Sl.nil [] := ⟨.inl ⟨rfl, rfl⟩, fun _ h => (by cases h), rfl⟩
/-- a message whose lists can be read, without pairs and sessions -/
structure Rdm (w : World) (m : Mg) : Prop where
  v : ∃ ys, Ct w m.v ys
  o : ∃ ys, Ct w m.o ys
  py : ∃ ys, Ct w m.py ys
  pa : m.pa.n = 0
  se : m.se.n = 0
theorem Rdm.nu {w w' : World} {m : Mg} (h : Rdm w m) (k : Kp Nu w w') : Rdm w' m := by
  obtain ⟨⟨a, ha⟩, ⟨b, hb⟩, ⟨c, hc⟩, hp, hs⟩ := h
  exact ⟨⟨a, ha.nu k⟩, ⟨b, hb.nu k⟩, ⟨c, hc.nu k⟩, hp, hs⟩
/-- alike but for where their lists lie -/
structure Alike (a b : Mg) : Prop where
  k : a.k = b.k
  seq : a.seq = b.seq
  key : a.key = b.key
  hi : a.hi = b.hi
  v : a.v.n = b.v.n
  o : a.o.n = b.o.n
  has : a.has = b.has
  of : a.of = b.of
  st : a.st = b.st
  host : a.host = b.host
  gr : a.gr = b.gr
  bo : a.bo = b.bo
  ma : a.ma = b.ma
  li : a.li = b.li
  py : a.py.n = b.py.n
theorem sameM (w : World) (a b : Mg) (ha : Rdm w a) (hb : Rdm w b) : Calls Tryz.prog 29 #[.agg a.cells, .agg b.cells] w fun e w' => ∃ r, e = .returned (.bool r) ∧ (r = true → Alike a b) ∧ Kp Nu w w' := by
  obtain ⟨⟨V1, v1⟩, ⟨O1, o1⟩, ⟨Y1, y1⟩, p1, s1⟩ := ha
  obtain ⟨⟨V2, v2⟩, ⟨O2, o2⟩, ⟨Y2, y2⟩, p2, s2⟩ := hb
  obtain ⟨k1, seq1, key1, hi1, ⟨va1, vn1, vc1⟩, ⟨oa1, on1, oc1⟩, has1, of1, st1, host1, gr1, bo1, ma1, li1, ⟨pa1, pn1, pc1⟩, ⟨sa1, sn1, sc1⟩, ⟨ya1, yn1, yc1⟩⟩ := a
  obtain ⟨k2, seq2, key2, hi2, ⟨va2, vn2, vc2⟩, ⟨oa2, on2, oc2⟩, has2, of2, st2, host2, gr2, bo2, ma2, li2, ⟨pa2, pn2, pc2⟩, ⟨sa2, sn2, sc2⟩, ⟨ya2, yn2, yc2⟩⟩ := b
  have e1 := v1.n; have e2 := v2.n; have e3 := o1.n; have e4 := o2.n; have e5 := y1.n; have e6 := y2.n
  simp only [] at e1 e2 e3 e4 e5 e6 p1 p2 s1 s2
  subst e1 e2 e3 e4 e5 e6 p1 p2 s1 s2
  refine (same_any w k1 seq1 key1 hi1 of1 st1 host1 gr1 bo1 ma1 li1 has1 V1 O1 Y1 va1 oa1 ya1 pa1 sa1 vc1 oc1 yc1 pc1 sc1 k2 seq2 key2 hi2 of2 st2 host2 gr2 bo2 ma2 li2 has2 V2 O2 Y2 va2 oa2 ya2 pa2 sa2 vc2 oc2 yc2 pc2 sc2 v1.rd o1.rd y1.rd v1.by_ o1.by_ y1.by_ v2.rd o2.rd y2.rd v2.by_ o2.by_ y2.by_).mono ?_
  rintro e w' ⟨rfl, hk⟩
  refine ⟨_, rfl, fun hr => ?_, hk⟩
  obtain ⟨rfl, rfl, rfl, q1, q2, q3, q4, q5, q6, q7, q8, q9, q10, q11, q12⟩ := of_decide_eq_true hr
  exact ⟨q1, q2, q3, q4, rfl, rfl, q5, q6, q7, q8, q9, q10, q11, q12, rfl⟩
/-- the message with some of m's fields -/
def Mg.lays (n m : Mg) (fs : List Nat) : Mg := fs.foldl (fun n f => n.lay m f) n
theorem lays_take {n m : Mg} {fs : List Nat} {k f : Nat} (h : fs[k]? = some f) : n.lays m (fs.take (k + 1)) = (n.lays m (fs.take k)).lay m f := by
  rw [List.take_add_one, h, Option.toList_some, Mg.lays, List.foldl_append]; rfl
theorem lay_rdm {w : World} {n m : Mg} (hn : Rdm w n) (hm : Rdm w m) (f : Nat) : Rdm w (n.lay m f) := by
  obtain ⟨a1, b1, c1, p1, s1⟩ := hn
  obtain ⟨a2, b2, c2, p2, s2⟩ := hm
  unfold Mg.lay
  split <;> exact ⟨by assumption, by assumption, by assumption, by assumption, by assumption⟩
theorem lays_rdm {w : World} {m : Mg} (hm : Rdm w m) : ∀ (fs : List Nat) {n : Mg}, Rdm w n → Rdm w (n.lays m fs)
  | [], n, hn => hn
  | f :: fs, n, hn => lays_rdm hm fs (lay_rdm hn hm f)
/-- of a kind, and nothing else -/
def Mg.bare (k : Int) : Mg := ⟨k, 0, 0, 0, Sl.nil, Sl.nil, false, 0, 0, 0, 0, 0, 0, 0, Sl.nil, Sl.nil, Sl.nil⟩
theorem bare_rdm (w : World) (k : Int) : Rdm w (Mg.bare k) := ⟨⟨[], Ct.nil w⟩, ⟨[], Ct.nil w⟩, ⟨[], Ct.nil w⟩, rfl, rfl⟩
theorem ul_fit {m : Mg} {f : Nat} (h : f ∈ ul m) : 1 ≤ f ∧ f ≤ 15 := by
  unfold ul at h
  repeat' split at h
  all_goals (simp only [List.mem_cons, List.not_mem_nil, or_false] at h; omega)
theorem ul_len (m : Mg) : (ul m).length ≤ 6 := by
  unfold ul
  repeat (first | split | simp)
theorem Is.cell {w : World} {a : Option Addr} {n c : Nat} {xs : List Nat} (h : Is w (.slice a n c) xs) {k f : Nat} (hk : xs[k]? = some f) : ∃ r, a = some ⟨r, 0, none⟩ ∧ w.cell? ⟨r, k, none⟩ = some (.int .i64 (f : Int)) := by
  obtain ⟨r, c', e, hb⟩ := h
  simp only [Value.slice.injEq] at e
  exact ⟨r, e.1, cellAt hb k (by simp [hk])⟩
end Go.Proofs.YtmlnglillgplfaaGreat.Cl
