import Derived.Test.YtffcnonhhfhlhaaDoorOnI
import Derived.BigQuiet
namespace Go.Proofs.YtffcnonhhfhlhaaDoor.Rg
open Go.RowKit Go.Shelf Go.Sort
set_option linter.unusedVariables false
/-- what stands when all lists have grown -/
structure Grn (B1 : Nat) (wE : World) (B b : Nat) (mv sv iv : Value) (ml sl il : List Value) (mn sn cn : List Nat) (mx sx ix : Value) (lm lg li : List Value) : Prop where
  bk : Bk wE B b mv sv iv ml sl il
  m : Rdr wE 22 1 mx lm.length lm
  s : Rdr wE 55 1 sx lg.length lg
  i : Rdr wE 58 1 ix li.length li
  gm : Ow wE B B1 26 3 ml mn fM gM 20 lm lm.length
  gs : Ow wE B B1 105 3 sl sn fS gS 20 lg lg.length
  gi : Ow wE B B1 112 4 il cn fC gC 20 li li.length
  lm : lm.length = ml.length
  lg : lg.length = sl.length
  li : li.length = il.length
theorem Grn.nu {B1 : Nat} {w w' : World} {B b : Nat} {mv sv iv : Value} {ml sl il : List Value} {mn sn cn : List Nat} {mx sx ix : Value} {lm lg li : List Value} (h : Grn B1 w B b mv sv iv ml sl il mn sn cn mx sx ix lm lg li) (k : Kp Nu w w') : Grn B1 w' B b mv sv iv ml sl il mn sn cn mx sx ix lm lg li := by
  have rk : ∀ {t e n : Nat} {v : Value} {xs : List Value}, Rdr w t e v n xs → Rdr w' t e v n xs := fun hr => hr.keep (fun g e => by
    obtain ⟨c, hc⟩ := hr.obj e
    exact k.block g (blk_lt hc) (fun x => x))
  exact ⟨h.bk.nu k, rk h.m, rk h.s, rk h.i, h.gm.keep k (fun _ _ _ x => x), h.gs.keep k (fun _ _ _ x => x), h.gi.keep k (fun _ _ _ x => x), h.lm, h.lg, h.li⟩
theorem Ow.mO {w : World} {B B1 c i n cp j k : Nat} {vs ls : List Value} {ns : List Nat} {g : Nat → Nat → List Value} {a : Option Addr} (h : Ow w B B1 26 3 vs ns fM g c ls i) (hj : j < i) (hv : vs[j]? = some (.slice a n cp)) (hn : ns[j]? = some n) (hk : k < n) :
    ∃ b, a = some ⟨b, 0, none⟩ ∧ w.cell? ⟨b, k * 3, none⟩ = some (.int .u64 (j : Int)) ∧ w.cell? ⟨b, k * 3 + 1, none⟩ = some (.int .u64 (k : Int)) ∧ w.cell? ⟨b, k * 3 + 2, none⟩ = some (.int .u8 77) := by
  obtain ⟨b, e0, x0⟩ := h.cellO (q := 0) hj hv hn (fun _ => rfl) hk (by decide) rfl
  obtain ⟨b1, e1, x1⟩ := h.cellO (q := 1) hj hv hn (fun _ => rfl) hk (by decide) rfl
  obtain ⟨b2, e2, x2⟩ := h.cellO (q := 2) hj hv hn (fun _ => rfl) hk (by decide) rfl
  subst e0
  cases e1; cases e2
  exact ⟨b, rfl, x0, x1, x2⟩
theorem Ow.sO {w : World} {B B1 c i n cp j k : Nat} {vs ls : List Value} {ns : List Nat} {g : Nat → Nat → List Value} {a : Option Addr} (h : Ow w B B1 105 3 vs ns fS g c ls i) (hj : j < i) (hv : vs[j]? = some (.slice a n cp)) (hn : ns[j]? = some n) (hk : k < n) :
    ∃ b, a = some ⟨b, 0, none⟩ ∧ w.cell? ⟨b, k * 3, none⟩ = some (.int .u8 78) ∧ w.cell? ⟨b, k * 3 + 1, none⟩ = some (.int .i64 (j : Int)) ∧ w.cell? ⟨b, k * 3 + 2, none⟩ = some (.int .u64 (k : Int)) := by
  obtain ⟨b, e0, x0⟩ := h.cellO (q := 0) hj hv hn (fun _ => rfl) hk (by decide) rfl
  obtain ⟨b1, e1, x1⟩ := h.cellO (q := 1) hj hv hn (fun _ => rfl) hk (by decide) rfl
  obtain ⟨b2, e2, x2⟩ := h.cellO (q := 2) hj hv hn (fun _ => rfl) hk (by decide) rfl
  subst e0
  cases e1; cases e2
  exact ⟨b, rfl, x0, x1, x2⟩
theorem Ow.cO {w : World} {B B1 c i n cp j k : Nat} {vs ls : List Value} {ns : List Nat} {g : Nat → Nat → List Value} {a : Option Addr} (h : Ow w B B1 112 4 vs ns fC g c ls i) (hj : j < i) (hv : vs[j]? = some (.slice a n cp)) (hn : ns[j]? = some n) (hk : k < n) :
    ∃ b, a = some ⟨b, 0, none⟩ ∧ w.cell? ⟨b, k * 4, none⟩ = some (.int .u64 (j : Int)) ∧ w.cell? ⟨b, k * 4 + 1, none⟩ = some (.int .u64 (k : Int)) ∧ w.cell? ⟨b, k * 4 + 2, none⟩ = some (.int .u8 0) ∧ w.cell? ⟨b, k * 4 + 3, none⟩ = some (.int .u8 0) := by
  obtain ⟨b, e0, x0⟩ := h.cellO (q := 0) hj hv hn (fun _ => rfl) hk (by decide) rfl
  obtain ⟨b1, e1, x1⟩ := h.cellO (q := 1) hj hv hn (fun _ => rfl) hk (by decide) rfl
  obtain ⟨b2, e2, x2⟩ := h.cellO (q := 2) hj hv hn (fun _ => rfl) hk (by decide) rfl
  obtain ⟨b3, e3, x3⟩ := h.cellO (q := 3) hj hv hn (fun _ => rfl) hk (by decide) rfl
  subst e0
  cases e1; cases e2; cases e3
  exact ⟨b, rfl, x0, x1, x2, x3⟩
/-- the k-th of those that a list grew by -/
theorem Ow.at_ {w : World} {B B1 t e : Nat} {vs : List Value} {ns : List Nat} {f g : Nat → Nat → List Value} {c i n cp j k q : Nat} {ls : List Value} {a : Option Addr} {u : Value} (h : Ow w B B1 t e vs ns f g c ls i) (hl : ls[j]? = some (.slice a (n + c) cp)) (hn : ns[j]? = some n) (hf : ∀ k, (f j k).length = e) (hg : ∀ k, (g j k).length = e) (hk : k < c) (hq : q < e) (hu : (g j k)[q]? = some u) : ∃ b, a = some ⟨b, 0, none⟩ ∧ w.cell? ⟨b, (n + k) * e + q, none⟩ = some u :=
  h.cellN (k := n + k) hl hn hf hg (by omega) (by omega) hq (by rw [Nat.add_sub_cancel_left]; exact hu)
theorem Ow.mN {w : World} {B B1 i n cp j k : Nat} {vs ls : List Value} {ns : List Nat} {a : Option Addr} (h : Ow w B B1 26 3 vs ns fM gM 20 ls i) (hl : ls[j]? = some (.slice a (n + 20) cp)) (hn : ns[j]? = some n) (hk : k < 20) :
    ∃ b, a = some ⟨b, 0, none⟩ ∧ w.cell? ⟨b, (n + k) * 3, none⟩ = some (.int .u64 (j : Int)) ∧ w.cell? ⟨b, (n + k) * 3 + 1, none⟩ = some (.int .u64 (k : Int)) ∧ w.cell? ⟨b, (n + k) * 3 + 2, none⟩ = some (.int .u8 87) := by
  obtain ⟨b, e0, x0⟩ := h.at_ (q := 0) hl hn (fun _ => rfl) (fun _ => rfl) hk (by decide) rfl
  obtain ⟨b1, e1, x1⟩ := h.at_ (q := 1) hl hn (fun _ => rfl) (fun _ => rfl) hk (by decide) rfl
  obtain ⟨b2, e2, x2⟩ := h.at_ (q := 2) hl hn (fun _ => rfl) (fun _ => rfl) hk (by decide) rfl
  subst e0
  cases e1; cases e2
  exact ⟨b, rfl, x0, x1, x2⟩
theorem Ow.sN {w : World} {B B1 i n cp j k : Nat} {vs ls : List Value} {ns : List Nat} {a : Option Addr} (h : Ow w B B1 105 3 vs ns fS gS 20 ls i) (hl : ls[j]? = some (.slice a (n + 20) cp)) (hn : ns[j]? = some n) (hk : k < 20) :
    ∃ b, a = some ⟨b, 0, none⟩ ∧ w.cell? ⟨b, (n + k) * 3, none⟩ = some (.int .u8 88) ∧ w.cell? ⟨b, (n + k) * 3 + 1, none⟩ = some (.int .i64 (j : Int)) ∧ w.cell? ⟨b, (n + k) * 3 + 2, none⟩ = some (.int .u64 (k : Int)) := by
  obtain ⟨b, e0, x0⟩ := h.at_ (q := 0) hl hn (fun _ => rfl) (fun _ => rfl) hk (by decide) rfl
  obtain ⟨b1, e1, x1⟩ := h.at_ (q := 1) hl hn (fun _ => rfl) (fun _ => rfl) hk (by decide) rfl
  obtain ⟨b2, e2, x2⟩ := h.at_ (q := 2) hl hn (fun _ => rfl) (fun _ => rfl) hk (by decide) rfl
  subst e0
  cases e1; cases e2
  exact ⟨b, rfl, x0, x1, x2⟩
theorem Ow.cN {w : World} {B B1 i n cp j k : Nat} {vs ls : List Value} {ns : List Nat} {a : Option Addr} (h : Ow w B B1 112 4 vs ns fC gC 20 ls i) (hl : ls[j]? = some (.slice a (n + 20) cp)) (hn : ns[j]? = some n) (hk : k < 20) :
    ∃ b, a = some ⟨b, 0, none⟩ ∧ w.cell? ⟨b, (n + k) * 4, none⟩ = some (.int .u64 ((j : Int) + 1000)) ∧ w.cell? ⟨b, (n + k) * 4 + 1, none⟩ = some (.int .u64 (k : Int)) ∧ w.cell? ⟨b, (n + k) * 4 + 2, none⟩ = some (.int .u8 0) ∧ w.cell? ⟨b, (n + k) * 4 + 3, none⟩ = some (.int .u8 0) := by
  obtain ⟨b, e0, x0⟩ := h.at_ (q := 0) hl hn (fun _ => rfl) (fun _ => rfl) hk (by decide) rfl
  obtain ⟨b1, e1, x1⟩ := h.at_ (q := 1) hl hn (fun _ => rfl) (fun _ => rfl) hk (by decide) rfl
  obtain ⟨b2, e2, x2⟩ := h.at_ (q := 2) hl hn (fun _ => rfl) (fun _ => rfl) hk (by decide) rfl
  obtain ⟨b3, e3, x3⟩ := h.at_ (q := 3) hl hn (fun _ => rfl) (fun _ => rfl) hk (by decide) rfl
  subst e0
  cases e1; cases e2; cases e3
  exact ⟨b, rfl, x0, x1, x2, x3⟩
/-- numbers of the last loop -/
theorem nk20 {n k : Nat} (hn : n ≤ 20000) (hk : k < 20) : wrap64 ((n : Int) + (k : Int)) = (n : Int) + (k : Int) ∧ IntKind.i64.wrap ((n : Int) + (k : Int)) = (n : Int) + (k : Int) ∧ (0 : Int) ≤ (n : Int) + (k : Int) ∧ (n : Int) + (k : Int) < ((n + 20 : Nat) : Int) ∧ ((n : Int) + (k : Int)).toNat = n + k :=
  ⟨w64s (by omega) (by omega), wi64s (by omega) (by omega), by omega, by omega, by omega⟩
theorem le5 {k : Nat} (h : k < 20) : k ≤ 100000 := by omega
theorem le5n {k n : Nat} (h : k < n) (hn : n ≤ 20000) : k ≤ 100000 := by omega
theorem le100 {i N : Nat} (h : i < N) (h2 : N ≤ 100) : i ≤ 100 := by omega
theorem le5h {p : Nat} (h : p ≤ 100) : p ≤ 100000 := by omega
theorem bmx {n k : Nat} (hn : n ≤ 20000) (hk : k < 20) : n + k + 1 ≤ maxLen ∧ (n + k + 1) * 24 ≤ 140737488355328 := ⟨by unfold maxLen; omega, by omega⟩
theorem bmi {i N : Nat} (h : i < N) (h2 : N ≤ 100) : i + 1 ≤ maxLen ∧ (i + 1) * 24 ≤ 140737488355328 := ⟨by unfold maxLen; omega, by omega⟩
theorem lt20c {k : Nat} (h : k < 20) : (k : Int) < 20 := by omega
theorem nlt20c {k : Nat} (h : ¬ k < 20) : ¬ (k : Int) < 20 := by omega
theorem info26z : (Tryd.prog.info? 26).map (fun i => (i.zero, i.size, i.bytes)) = some (some (.agg #[.int .u64 0, .int .u64 0, .int .u8 0]), 3, 24) := by kernel_rfl
theorem info105z : (Tryd.prog.info? 105).map (fun i => (i.zero, i.size, i.bytes)) = some (some (.agg #[.int .u8 0, .int .i64 0, .int .u64 0]), 3, 24) := by kernel_rfl
theorem info112z : (Tryd.prog.info? 112).map (fun i => (i.zero, i.size, i.bytes)) = some (some (.agg #[.int .u64 0, .int .u64 0, .int .u8 0, .int .u8 0]), 4, 24) := by kernel_rfl
end Go.Proofs.YtffcnonhhfhlhaaDoor.Rg
namespace Go.Proofs.YtffcnonhhfhlhaaDoor.Rg
open Go.RowKit Go.Shelf Go.Sort
open Go.Proofs.YtffcnonhhfhlhaaDoor.It
set_option linter.unusedVariables false
set_option maxRecDepth 100000 in
set_option maxHeartbeats 8000000 in
theorem apart37 (w : World) (B b : Nat) (mv sv iv : Value) (ml sl il : List Value) (mn sn cn : List Nat) (X Y Z : Nat → List Value) (N : Nat) (hB : Bk w B b mv sv iv ml sl il) (hM : En w B 26 3 ml mn X) (hS : En w B 105 3 sl sn Y) (hC : En w B 112 4 il cn Z) (em : ml.length = N) (es : sl.length = N) (ei : il.length = N) (n1 : 0 < N) (n2 : N ≤ 100) (hmn : ∀ n ∈ mn, n ≤ 20000) (hsn : ∀ n ∈ sn, n ≤ 20000) (hcn : ∀ n ∈ cn, n ≤ 20000) (hBw : B ≤ w.heap.size) :
    Calls Tryd.prog 37 #[.pointer (some ⟨b, 0, none⟩)] w fun e w' => e = .returned (.bool true) ∧ Kp (fun g => Eb ml g ∨ Eb sl g ∨ Eb il g) w w' := by
  have mixed : Tryd.prog.follows .mixedOrders = true := by kernel_rfl
  have MK := marks68 w B b mv sv iv ml sl il mn sn cn X Y Z N hB hM hS hC em es ei n1 n2 hmn hsn hcn
  obtain ⟨mg, mc, emv⟩ := own_blk hB.m (by omega)
  obtain ⟨sg, sc, esv⟩ := own_blk hB.s (by omega)
  obtain ⟨ig, ic, eiv⟩ := own_blk hB.i (by omega)
  rw [em] at emv
  rw [es] at esv
  rw [ei] at eiv
  subst emv
  subst esv
  subst eiv
  have HA := hide (And.intro hmn (And.intro hsn (And.intro hcn hBw)))
  have HN := hide (And.intro em (And.intro es ei))
  have hNI : (N : Int) ≤ 100 := by omega
  clear hB hM hS hC hmn hsn hcn em es ei hBw
  go_enter Tryd.func37, Tryd.ntmps37
  go_wp2_with fail
  refine MK.mono ?_; rintro e w1 ⟨rfl, hSt⟩
  have hB1 := hSt.bk
  have hM1 := hSt.m.full (by have := HN.out.1; omega)
  have hS1 := hSt.s.full (by have := HN.out.2.1; omega)
  have hC1 := hSt.c.full (by have := HN.out.2.2; omega)
  have hBw1 : B ≤ w1.heap.size := by have := HA.out.2.2.2; have := hSt.kp.size; omega
  have H1 := hide (And.intro hB1 (And.intro hM1 (And.intro hS1 (And.intro hC1 (And.intro hSt.kp hBw1)))))
  obtain ⟨B1, eB1⟩ : ∃ B1, w1.heap.size = B1 := ⟨_, rfl⟩
  have HB1 := hide eB1
  have GM0 : Hid (Ow w1 B B1 26 3 ml mn fM gM 20 [] 0) := hide (by rw [← eB1]; exact Ow.start hM1)
  have GS0 : Hid (Ow w1 B B1 105 3 sl sn fS gS 20 [] 0) := hide (by rw [← eB1]; exact Ow.start hS1)
  have GC0 : Hid (Ow w1 B B1 112 4 il cn fC gC 20 [] 0) := hide (by rw [← eB1]; exact Ow.start hC1)
  have apM : Hid (∀ g, Bc b (.slice (some ⟨mg, 0, none⟩) N mc) (.slice (some ⟨sg, 0, none⟩) N sc) (.slice (some ⟨ig, 0, none⟩) N ic) g → ¬ (Eb ml g ∨ Eb sl g ∨ Eb il g)) := hide (fun g hg e => e.elim (hB1.apart hM1 (by decide) (by decide) (by decide) (by decide) g hg) (fun e => e.elim (hB1.apart hS1 (by decide) (by decide) (by decide) (by decide) g hg) (hB1.apart hC1 (by decide) (by decide) (by decide) (by decide) g hg)))
  clear MK hB1 hM1 hS1 hC1 hSt eB1
  go_wp2
  go_loopw [3, 4, 5, 6] (fun mxv sxv cxv iv wr => ∃ (i : Nat) (ma : Option Addr) (mcc : Nat) (sa : Option Addr) (scc : Nat) (ca : Option Addr) (ccc : Nat), mxv = .slice ma i mcc ∧ sxv = .slice sa i scc ∧ cxv = .slice ca i ccc ∧ iv = .int .i64 (i : Int) ∧ i ≤ N ∧ Hid (∃ lm lg li, wr.ownsRow B1 22 1 (.slice ma i mcc) i lm ∧ wr.ownsRow B1 55 1 (.slice sa i scc) i lg ∧ wr.ownsRow B1 58 1 (.slice ca i ccc) i li ∧ Ow wr B B1 26 3 ml mn fM gM 20 lm i ∧ Ow wr B B1 105 3 sl sn fS gS 20 lg i ∧ Ow wr B B1 112 4 il cn fC gC 20 li i ∧ Kp (fun g => Eb ml g ∨ Eb sl g ∨ Eb il g) w1 wr)) (fun _ _ _ iv _ => N - (intOf iv).toNat)
  case atStart => exact ⟨0, none, 0, none, 0, none, 0, rfl, rfl, rfl, rfl, Nat.zero_le _, hide ⟨[], [], [], World.ownsRow_nil _ _ _ _, World.ownsRow_nil _ _ _ _, World.ownsRow_nil _ _ _ _, GM0.out, GS0.out, GC0.out, Kp.refl _ _⟩⟩
  case round =>
    obtain ⟨i, ma, mcc, sa, scc, ca, ccc, rfl, rfl, rfl, rfl, hi, hE⟩ := hrel
    have hi0 := nz i
    have hBr : Bk wr B b (.slice (some ⟨mg, 0, none⟩) N mc) (.slice (some ⟨sg, 0, none⟩) N sc) (.slice (some ⟨ig, 0, none⟩) N ic) ml sl il := by
      obtain ⟨lm, lg, li, _, _, _, _, _, _, hk⟩ := hE.out
      exact H1.out.1.keep hk apM.out
    obtain ⟨c0, c1, c2⟩ := cell3 hBr.blk
    by_cases hlt : i < N
    · have hltI := lti hlt
      have eti := tn i
      have HbI : Hid (i + 1 ≤ maxLen ∧ (i + 1) * 24 ≤ 140737488355328) := hide (bmi hlt n2)
      obtain ⟨lm, lg, li, hmx, hsx, hcx, hGM, hGS, hGC, hkE⟩ := hE.out
      obtain ⟨v, hv⟩ : ∃ v, ml[i]? = some v := ⟨_, List.getElem?_eq_getElem (by have := HN.out; omega)⟩
      obtain ⟨n, hn⟩ : ∃ n, mn[i]? = some n := ⟨_, List.getElem?_eq_getElem (by have := HN.out; have := hGM.lev; omega)⟩
      obtain ⟨s, hs⟩ : ∃ s, sl[i]? = some s := ⟨_, List.getElem?_eq_getElem (by have := HN.out; omega)⟩
      obtain ⟨m, hm⟩ : ∃ m, sn[i]? = some m := ⟨_, List.getElem?_eq_getElem (by have := HN.out; have := hGS.lev; omega)⟩
      obtain ⟨c, hc⟩ : ∃ c, il[i]? = some c := ⟨_, List.getElem?_eq_getElem (by have := HN.out; omega)⟩
      obtain ⟨l, hl⟩ : ∃ l, cn[i]? = some l := ⟨_, List.getElem?_eq_getElem (by have := HN.out; have := hGC.lev; omega)⟩
      have hrv := hGM.own i v n (Nat.le_refl _) hv hn
      have hrs := hGS.own i s m (Nat.le_refl _) hs hm
      have hrc := hGC.own i c l (Nat.le_refl _) hc hl
      have hn2 := HA.out.1 n (List.mem_of_getElem? hn)
      have hm2 := HA.out.2.1 m (List.mem_of_getElem? hm)
      have hl2 := HA.out.2.2.1 l (List.mem_of_getElem? hl)
      have hcM : wr.cell? ⟨mg, i, none⟩ = some v := own_cell (B := B) (by have h := hBr.m; rw [HN.out.1] at h; exact h) hv
      have hcS : wr.cell? ⟨sg, i, none⟩ = some s := own_cell (B := B) (by have h := hBr.s; rw [HN.out.2.1] at h; exact h) hs
      have hcC : wr.cell? ⟨ig, i, none⟩ = some c := own_cell (B := B) (by have h := hBr.i; rw [HN.out.2.2] at h; exact h) hc
      obtain ⟨va, vc, ev⟩ := own_slice hrv
      obtain ⟨ua, uc, es⟩ := own_slice hrs
      obtain ⟨da, dc, ed⟩ := own_slice hrc
      have hi100 := le100 hlt n2
      obtain ⟨ew1, ew2, ew3⟩ := wp1000 (p := i) hi100
      have ewi := wup (p := i) (le5h hi100)
      obtain ⟨eI1, eI2⟩ := wk1 (k := i) (le5h hi100)
      subst ev
      subst es
      subst ed
      have HV := hide (And.intro hv (And.intro hn (And.intro hs (And.intro hm (And.intro hc (And.intro hl (And.intro hrv (And.intro hrs (And.intro hrc hBr)))))))))
      have HbK : Hid (∀ k, k < 20 → (n + k + 1 ≤ maxLen ∧ (n + k + 1) * 24 ≤ 140737488355328) ∧ (m + k + 1 ≤ maxLen ∧ (m + k + 1) * 24 ≤ 140737488355328) ∧ (l + k + 1 ≤ maxLen ∧ (l + k + 1) * 24 ≤ 140737488355328)) := hide (fun k hk => ⟨bmx hn2 hk, bmx hm2 hk, bmx hl2 hk⟩)
      have HE0 := hide (And.intro hmx (And.intro hsx (And.intro hcx (And.intro hGM (And.intro hGS (And.intro hGC hkE))))))
      clear hmx hsx hcx hGM hGS hGC hkE hv hn hs hm hc hl hrv hrs hrc hBr hn2 hm2 hl2
      go_wp2_with fail
      go_quiet (fail)
      have kW : Kp Nu wr (wr.drewN nq) := kqn ⟨nq, rfl⟩
      obtain ⟨W0, hW⟩ : ∃ W, wr.drewN nq = W := ⟨_, rfl⟩
      rw [hW] at kW ⊢
      have H0 := hide kW
      clear hW kW hcM hcS hcC c0 c1 c2
      have HL0 : Hid (Ol W0 W0 B 26 3 (.slice va n vc) (.slice va n vc) n n (mkl (fM i) n) [] ∧ Ol W0 W0 B 105 3 (.slice ua m uc) (.slice ua m uc) m m (mkl (fS i) m) [] ∧ Ol W0 W0 B 112 4 (.slice da l dc) (.slice da l dc) l l (mkl (fC i) l) []) := by
        obtain ⟨_, _, _, _, _, _, hrv, hrs, hrc, _⟩ := HV.out
        exact hide ⟨Ol.start (own_k hrv H0.out), Ol.start (own_k hrs H0.out), Ol.start (own_k hrc H0.out)⟩
      have HO : Hid (W0.ownsRow B1 22 1 (.slice ma i mcc) i lm ∧ W0.ownsRow B1 55 1 (.slice sa i scc) i lg ∧ W0.ownsRow B1 58 1 (.slice ca i ccc) i li ∧ Ow W0 B B1 26 3 ml mn fM gM 20 lm i ∧ Ow W0 B B1 105 3 sl sn fS gS 20 lg i ∧ Ow W0 B B1 112 4 il cn fC gC 20 li i ∧ Kp (fun g => Eb ml g ∨ Eb sl g ∨ Eb il g) w1 W0 ∧ B ≤ W0.heap.size) := by
        obtain ⟨hmx, hsx, hcx, hGM, hGS, hGC, hkE⟩ := HE0.out
        have k0 := H0.out
        exact hide ⟨own_k hmx k0, own_k hsx k0, own_k hcx k0, hGM.keep k0 (fun _ _ _ x => x), hGS.keep k0 (fun _ _ _ x => x), hGC.keep k0 (fun _ _ _ x => x), hkE.andNu k0, by have := H1.out.2.2.2.2.2; have := hkE.size; have := k0.size; omega⟩
      have hfin := hide (fin20 hlt)
      clear HE0 hE H0 hi hlt
      go_wp2
      go_loopw [7, 8, 9, 10] (fun lv xv zv kv wq => ∃ (k : Nat) (la : Option Addr) (lc : Nat) (xa : Option Addr) (xc : Nat) (za : Option Addr) (zc : Nat), lv = .slice la (n + k) lc ∧ xv = .slice xa (m + k) xc ∧ zv = .slice za (l + k) zc ∧ kv = .int .i64 (k : Int) ∧ k ≤ 20 ∧ Hid (Ol W0 wq B 26 3 (.slice va n vc) (.slice la (n + k) lc) n (n + k) (mkl (fM i) n) (mkl (gM i) k) ∧ Ol W0 wq B 105 3 (.slice ua m uc) (.slice xa (m + k) xc) m (m + k) (mkl (fS i) m) (mkl (gS i) k) ∧ Ol W0 wq B 112 4 (.slice da l dc) (.slice za (l + k) zc) l (l + k) (mkl (fC i) l) (mkl (gC i) k) ∧ Kp (fun q => some q = (Value.slice va n vc).ownBlock ∨ some q = (Value.slice ua m uc).ownBlock ∨ some q = (Value.slice da l dc).ownBlock) W0 wq)) (fun _ _ _ kv _ => 20 - (intOf kv).toNat)
      case atStart => exact ⟨0, va, vc, ua, uc, da, dc, rfl, rfl, rfl, rfl, Nat.zero_le _, hide ⟨HL0.out.1, HL0.out.2.1, HL0.out.2.2, Kp.refl _ _⟩⟩
      case round =>
        obtain ⟨k, la, lc, xa, xc, za, zc, rfl, rfl, rfl, rfl, hk, hQ⟩ := hrel
        have hk0 := nz k
        by_cases hlk : k < 20
        · have hlkI := lt20c hlk
          have ewk := wup (p := k) (le5 hlk)
          obtain ⟨eK1, eK2⟩ := wk1 (k := k) (le5 hlk)
          have hfk := hide (fin20 hlk)
          obtain ⟨⟨b1, b2⟩, ⟨b3, b4⟩, ⟨b5, b6⟩⟩ := HbK.out k hlk
          have HBK := hide (And.intro b1 (And.intro b2 (And.intro b3 (And.intro b4 (And.intro b5 b6)))))
          obtain ⟨i0, hiT, hz0, hz1, hz2⟩ := info_parts info26z
          obtain ⟨i2', hiT2, hz02, hz12, hz22⟩ := info_parts info105z
          obtain ⟨i3', hiT3, hz03, hz13, hz23⟩ := info_parts info112z
          have hsz := hide (hQ.out.2.2.2.size)
          have hBs := hide (Nat.le_trans HO.out.2.2.2.2.2.2.2 hsz.out)
          clear b1 b2 b3 b4 b5 b6 hk hlk
          go_wp2_with (at_builtin; refine unhid ?_)
          refine wpList_append_row _ rfl _ _ 22 rfl B 26 i0 _ 3 24 Tryd.underlying22 hiT hz0 hz1 hz2 rfl (by decide) (.slice la (n + k) lc) (n + k) _ rfl (hQ.out.1.own.alloc _) ⟨wr.heap.size, 0, none⟩ 1 1 (gM i k) (by first | rfl | (simp; done)) rfl (World.news_of_block (heap_alloc_new _ _)) (by simp [gM, Value.oneCell']) HBK.out.1 HBK.out.2.1 (by rw [World.size_alloc]; exact Nat.le_succ_of_le hBs.out) ?_
          intro l' w2 hown2 hgrow2 hat2 hrw2
          have kal := Kp.alloc wr (.cells #[.int .u64 (i : Int), .int .u64 (k : Int), .int .u8 87] 26) Nu
          obtain ⟨hG1, hK1⟩ := hQ.out.1.app (l' := l') (news := gM i k) kal hsz.out hown2 hgrow2 hat2 hrw2
          rw [← mkl_succ] at hG1
          have ty : ∀ (q : Nat) (cc : Array Value) (t : TypeId), wr.heap[q]? = some (.cells cc t (0, 0)) → t ≠ 26 → ¬ some q = (Value.slice la (n + k) lc).ownBlock := fun q cc t hc ht e => by
            obtain ⟨c', hc'⟩ := own_obj hQ.out.1.own e.symm
            rw [hc] at hc'; cases hc'; exact ht rfl
          have hG2 := hQ.out.2.1.keep (kp_row kal hgrow2) (fun q cc hc => ty q cc _ hc (by decide))
          have hG3 := hQ.out.2.2.1.keep (kp_row kal hgrow2) (fun q cc hc => ty q cc _ hc (by decide))
          have hK2 := hK1 _ (fun q e => .inl e) hQ.out.2.2.2
          obtain ⟨la', lc', el⟩ := own_slice hown2
          have HQ2 := hide (And.intro hG1 (And.intro hG2 (And.intro hG3 hK2)))
          have hs2 := hide (Nat.le_trans hBs.out (kp_row kal hgrow2).size)
          subst el
          clear hown2 hgrow2 hat2 hrw2 hG1 hG2 hG3 hK1 hK2 kal ty hBs hsz
          go_wp2_with (at_builtin; refine unhid ?_)
          refine wpList_append_row _ rfl _ _ 55 rfl B 105 i2' _ 3 24 Tryd.underlying55 hiT2 hz02 hz12 hz22 rfl (by decide) (.slice xa (m + k) xc) (m + k) _ rfl (HQ2.out.2.1.own.alloc _) ⟨w2.heap.size, 0, none⟩ 1 1 (gS i k) (by first | rfl | (simp; done)) rfl (World.news_of_block (heap_alloc_new _ _)) (by simp [gS, Value.oneCell']) HBK.out.2.2.1 HBK.out.2.2.2.1 (by rw [World.size_alloc]; exact Nat.le_succ_of_le hs2.out) ?_
          intro x' w3 hown3 hgrow3 hat3 hrw3
          have kal := Kp.alloc w2 (.cells #[.int .u8 88, .int .i64 (i : Int), .int .u64 (k : Int)] 105) Nu
          obtain ⟨hG2, hK2⟩ := HQ2.out.2.1.app (l' := x') (news := gS i k) kal HQ2.out.2.2.2.size hown3 hgrow3 hat3 hrw3
          rw [← mkl_succ] at hG2
          have ty : ∀ (q : Nat) (cc : Array Value) (t : TypeId), w2.heap[q]? = some (.cells cc t (0, 0)) → t ≠ 105 → ¬ some q = (Value.slice xa (m + k) xc).ownBlock := fun q cc t hc ht e => by
            obtain ⟨c', hc'⟩ := own_obj HQ2.out.2.1.own e.symm
            rw [hc] at hc'; cases hc'; exact ht rfl
          have hG1 := HQ2.out.1.keep (kp_row kal hgrow3) (fun q cc hc => ty q cc _ hc (by decide))
          have hG3 := HQ2.out.2.2.1.keep (kp_row kal hgrow3) (fun q cc hc => ty q cc _ hc (by decide))
          have hK3 := hK2 _ (fun q e => .inr (.inl e)) HQ2.out.2.2.2
          obtain ⟨xa', xc', ex⟩ := own_slice hown3
          have HQ3 := hide (And.intro hG1 (And.intro hG2 (And.intro hG3 hK3)))
          have hs3 := hide (Nat.le_trans hs2.out (kp_row kal hgrow3).size)
          subst ex
          clear hown3 hgrow3 hat3 hrw3 hG1 hG2 hG3 hK2 hK3 kal ty hs2
          go_wp2_with (at_builtin; refine unhid ?_)
          refine wpList_append_row _ rfl _ _ 58 rfl B 112 i3' _ 4 24 Tryd.underlying58 hiT3 hz03 hz13 hz23 rfl (by decide) (.slice za (l + k) zc) (l + k) _ rfl (HQ3.out.2.2.1.own.alloc _) ⟨w3.heap.size, 0, none⟩ 1 1 (gC i k) (by first | rfl | (simp; done)) rfl (World.news_of_block (heap_alloc_new _ _)) (by simp [gC, Value.oneCell']) HBK.out.2.2.2.2.1 HBK.out.2.2.2.2.2 (by rw [World.size_alloc]; exact Nat.le_succ_of_le hs3.out) ?_
          intro z' w4 hown4 hgrow4 hat4 hrw4
          have kal := Kp.alloc w3 (.cells #[.int .u64 ((i : Int) + 1000), .int .u64 (k : Int), .int .u8 0, .int .u8 0] 112) Nu
          obtain ⟨hG3, hK3⟩ := HQ3.out.2.2.1.app (l' := z') (news := gC i k) kal HQ3.out.2.2.2.size hown4 hgrow4 hat4 hrw4
          rw [← mkl_succ] at hG3
          have ty : ∀ (q : Nat) (cc : Array Value) (t : TypeId), w3.heap[q]? = some (.cells cc t (0, 0)) → t ≠ 112 → ¬ some q = (Value.slice za (l + k) zc).ownBlock := fun q cc t hc ht e => by
            obtain ⟨c', hc'⟩ := own_obj HQ3.out.2.2.1.own e.symm
            rw [hc] at hc'; cases hc'; exact ht rfl
          have hG1 := HQ3.out.1.keep (kp_row kal hgrow4) (fun q cc hc => ty q cc _ hc (by decide))
          have hG2 := HQ3.out.2.1.keep (kp_row kal hgrow4) (fun q cc hc => ty q cc _ hc (by decide))
          have hK4 := hK3 _ (fun q e => .inr (.inr e)) HQ3.out.2.2.2
          obtain ⟨za', zc', ez⟩ := own_slice hown4
          have HQ4 := hide (And.intro hG1 (And.intro hG2 (And.intro hG3 hK4)))
          subst ez
          clear hown4 hgrow4 hat4 hrw4 hG1 hG2 hG3 hK3 hK4 kal ty hs3
          go_wp2
          exact ⟨⟨k + 1, la', lc', xa', xc', za', zc', rfl, rfl, rfl, ins k, hfk.out.1, hide ⟨HQ4.out.1, HQ4.out.2.1, HQ4.out.2.2.1, HQ4.out.2.2.2⟩⟩, by simp only [intOf]; rw [tns, tn]; exact hfk.out.2⟩
        · have hlkI := nlt20c hlk
          have hk20 := hide (Nat.le_antisymm hk (Nat.le_of_not_lt hlk))
          clear ew1 ew2 ew3
          obtain ⟨hmx, hsx, hcx, hGM, hGS, hGC, hkE, hxx⟩ := HO.out
          obtain ⟨hv, hn, hs, hm, hc, hl, hyy⟩ := HV.out
          clear hxx hyy
          have hT2 : ∀ (q : Nat) (cc : Array Value) (t : TypeId), W0.heap[q]? = some (.cells cc t (0, 0)) → (some q = (Value.slice va n vc).ownBlock → t = 26) ∧ (some q = (Value.slice ua m uc).ownBlock → t = 105) ∧ (some q = (Value.slice da l dc).ownBlock → t = 112) := fun q cc t hc => by
            refine ⟨fun e => ?_, fun e => ?_, fun e => ?_⟩
            · obtain ⟨c', hc'⟩ := own_obj HL0.out.1.own e.symm
              rw [hc] at hc'; cases hc'; rfl
            · obtain ⟨c', hc'⟩ := own_obj HL0.out.2.1.own e.symm
              rw [hc] at hc'; cases hc'; rfl
            · obtain ⟨c', hc'⟩ := own_obj HL0.out.2.2.own e.symm
              rw [hc] at hc'; cases hc'; rfl
          have hB1W : B1 ≤ W0.heap.size := by rw [← HB1.out]; exact hkE.size
          have hG1 := hGM.step hv hn hB1W (hQ.out.1.cast hk20.out) hQ.out.2.2.2 (fun q cc hc e => by
            rcases e with e | e | e
            · exact e
            · have := (hT2 q cc _ hc).2.1 e; cases this
            · have := (hT2 q cc _ hc).2.2 e; cases this)
          have hG2 := hGS.step hs hm hB1W (hQ.out.2.1.cast hk20.out) hQ.out.2.2.2 (fun q cc hc e => by
            rcases e with e | e | e
            · have := (hT2 q cc _ hc).1 e; cases this
            · exact e
            · have := (hT2 q cc _ hc).2.2 e; cases this)
          have hG3 := hGC.step hc hl hB1W (hQ.out.2.2.1.cast hk20.out) hQ.out.2.2.2 (fun q cc hc e => by
            rcases e with e | e | e
            · have := (hT2 q cc _ hc).1 e; cases this
            · have := (hT2 q cc _ hc).2.1 e; cases this
            · exact e)
          have side : ∀ {t : Nat} {v : Value} {nn : Nat} {xs : List Value}, W0.ownsRow B1 t 1 v nn xs → t ≠ 26 → t ≠ 105 → t ≠ 112 → wr.ownsRow B1 t 1 v nn xs := fun hr t1 t2 t3 => by
            have hr0 := hr
            exact own_keep hr0 (fun g e => hQ.out.2.2.2.block g (own_lt hr0 e) (fun e2 => by
              obtain ⟨cc, hc⟩ := own_obj hr0 e
              rcases e2 with e2 | e2 | e2
              · exact t1 ((hT2 g cc _ hc).1 e2)
              · exact t2 ((hT2 g cc _ hc).2.1 e2)
              · exact t3 ((hT2 g cc _ hc).2.2 e2)))
          have hmx' := side hmx (by decide) (by decide) (by decide)
          have hsx' := side hsx (by decide) (by decide) (by decide)
          have hcx' := side hcx (by decide) (by decide) (by decide)
          have kE : Kp (fun g => Eb ml g ∨ Eb sl g ∨ Eb il g) w1 wr := hkE.trans hQ.out.2.2.2 (fun q _ e => by
            rcases e with e | e | e
            · exact .inl ⟨_, List.mem_of_getElem? hv, e⟩
            · exact .inr (.inl ⟨_, List.mem_of_getElem? hs, e⟩)
            · exact .inr (.inr ⟨_, List.mem_of_getElem? hc, e⟩))
          have hsz : B1 ≤ wr.heap.size := Nat.le_trans hB1W hQ.out.2.2.2.size
          have HM2 := hide (And.intro hmx' (And.intro hsx' (And.intro hcx' (And.intro hG1 (And.intro hG2 (And.intro hG3 (And.intro kE hsz)))))))
          obtain ⟨i7, hi7, hz70, hz71, hz72⟩ := info_parts info22l
          obtain ⟨i8, hi8, hz80, hz81, hz82⟩ := info_parts info55l
          obtain ⟨i9, hi9, hz90, hz91, hz92⟩ := info_parts info58l
          clear hmx hsx hcx hGM hGS hGC hkE hv hn hs hm hc hl hT2 hB1W hG1 hG2 hG3 side hmx' hsx' hcx' kE hsz
          go_wp2_with (at_builtin; refine unhid ?_)
          refine wpList_append_row _ rfl _ _ 74 rfl B1 22 i7 _ 1 24 Tryd.underlying74 hi7 hz70 hz71 hz72 rfl (by decide) (.slice ma i mcc) i lm rfl (HM2.out.1.alloc _) ⟨wr.heap.size, 0, none⟩ 1 1 [.slice la (n + k) lc] (by first | rfl | (simp; done)) rfl (news_one _ _) (by simp [Value.oneCell']) HbI.out.1 HbI.out.2 (by rw [World.size_alloc]; exact Nat.le_succ_of_le HM2.out.2.2.2.2.2.2.2) ?_
          intro mx' w2 hown2 hgrow2 hat2 hrw2
          clear hk hlk hlkI hk0
          obtain ⟨ma', mcc', emx⟩ := own_slice hown2
          have HM3 : Hid (w2.ownsRow B1 22 1 mx' (i + 1) (lm ++ [.slice la (n + k) lc]) ∧ w2.ownsRow B1 55 1 (.slice sa i scc) i lg ∧ w2.ownsRow B1 58 1 (.slice ca i ccc) i li ∧ Ow w2 B B1 26 3 ml mn fM gM 20 (lm ++ [.slice la (n + k) lc]) (i + 1) ∧ Ow w2 B B1 105 3 sl sn fS gS 20 (lg ++ [.slice xa (m + k) xc]) (i + 1) ∧ Ow w2 B B1 112 4 il cn fC gC 20 (li ++ [.slice za (l + k) zc]) (i + 1) ∧ Kp (fun g => Eb ml g ∨ Eb sl g ∨ Eb il g) w1 w2 ∧ B1 ≤ w2.heap.size) := by
            obtain ⟨hmx, hsx, hcx, hG1, hG2, hG3, kE, hsz⟩ := HM2.out
            have k2 := kp_row (Kp.alloc wr (.cells #[.slice la (n + k) lc] 22) Nu) hgrow2
            have ty : ∀ (q : Nat) (c : Array Value) (t : TypeId), wr.heap[q]? = some (.cells c t (0, 0)) → t ≠ 22 → ¬ some q = (Value.slice ma i mcc).ownBlock := fun q c t hc ht e => by
              obtain ⟨c', hc'⟩ := own_obj hmx e.symm
              rw [hc] at hc'; cases hc'; exact ht rfl
            have rk : ∀ {t : Nat} {v : Value} {nn : Nat} {xs : List Value}, wr.ownsRow B1 t 1 v nn xs → t ≠ 22 → w2.ownsRow B1 t 1 v nn xs := fun hr ht => own_keep hr (fun g e => by
              obtain ⟨c, hc⟩ := own_obj hr e
              exact k2.block g (blk_lt hc) (ty g c _ hc ht))
            exact hide ⟨hown2, rk hsx (by decide), rk hcx (by decide), hG1.keep k2 (fun q c hc => ty q c _ hc (by decide)), hG2.keep k2 (fun q c hc => ty q c _ hc (by decide)), hG3.keep k2 (fun q c hc => ty q c _ hc (by decide)), kE.trans k2 (fun q hq e => absurd (HB1.out ▸ hq) (Nat.not_lt_of_le (hmx.lt q e.symm).1)), Nat.le_trans hsz k2.size⟩
          subst emx
          clear hown2 hgrow2 hat2 hrw2
          go_wp2_with (at_builtin; refine unhid ?_)
          refine wpList_append_row _ rfl _ _ 75 rfl B1 55 i8 _ 1 24 Tryd.underlying75 hi8 hz80 hz81 hz82 rfl (by decide) (.slice sa i scc) i lg rfl (HM3.out.2.1.alloc _) ⟨w2.heap.size, 0, none⟩ 1 1 [.slice xa (m + k) xc] (by first | rfl | (simp; done)) rfl (news_one _ _) (by simp [Value.oneCell']) HbI.out.1 HbI.out.2 (by rw [World.size_alloc]; exact Nat.le_succ_of_le HM3.out.2.2.2.2.2.2.2) ?_
          intro sx' w3 hown3 hgrow3 hat3 hrw3
          obtain ⟨sa', scc', esx⟩ := own_slice hown3
          have HM4 : Hid (w3.ownsRow B1 22 1 (.slice ma' (i + 1) mcc') (i + 1) (lm ++ [.slice la (n + k) lc]) ∧ w3.ownsRow B1 55 1 sx' (i + 1) (lg ++ [.slice xa (m + k) xc]) ∧ w3.ownsRow B1 58 1 (.slice ca i ccc) i li ∧ Ow w3 B B1 26 3 ml mn fM gM 20 (lm ++ [.slice la (n + k) lc]) (i + 1) ∧ Ow w3 B B1 105 3 sl sn fS gS 20 (lg ++ [.slice xa (m + k) xc]) (i + 1) ∧ Ow w3 B B1 112 4 il cn fC gC 20 (li ++ [.slice za (l + k) zc]) (i + 1) ∧ Kp (fun g => Eb ml g ∨ Eb sl g ∨ Eb il g) w1 w3 ∧ B1 ≤ w3.heap.size) := by
            obtain ⟨hmx, hsx, hcx, hG1, hG2, hG3, kE, hsz⟩ := HM3.out
            have k2 := kp_row (Kp.alloc w2 (.cells #[.slice xa (m + k) xc] 55) Nu) hgrow3
            have ty : ∀ (q : Nat) (c : Array Value) (t : TypeId), w2.heap[q]? = some (.cells c t (0, 0)) → t ≠ 55 → ¬ some q = (Value.slice sa i scc).ownBlock := fun q c t hc ht e => by
              obtain ⟨c', hc'⟩ := own_obj hsx e.symm
              rw [hc] at hc'; cases hc'; exact ht rfl
            have rk : ∀ {t : Nat} {v : Value} {nn : Nat} {xs : List Value}, w2.ownsRow B1 t 1 v nn xs → t ≠ 55 → w3.ownsRow B1 t 1 v nn xs := fun hr ht => own_keep hr (fun g e => by
              obtain ⟨c, hc⟩ := own_obj hr e
              exact k2.block g (blk_lt hc) (ty g c _ hc ht))
            exact hide ⟨rk hmx (by decide), hown3, rk hcx (by decide), hG1.keep k2 (fun q c hc => ty q c _ hc (by decide)), hG2.keep k2 (fun q c hc => ty q c _ hc (by decide)), hG3.keep k2 (fun q c hc => ty q c _ hc (by decide)), kE.trans k2 (fun q hq e => absurd (HB1.out ▸ hq) (Nat.not_lt_of_le (hsx.lt q e.symm).1)), Nat.le_trans hsz k2.size⟩
          subst esx
          clear hown3 hgrow3 hat3 hrw3
          go_wp2_with (at_builtin; refine unhid ?_)
          refine wpList_append_row _ rfl _ _ 76 rfl B1 58 i9 _ 1 24 Tryd.underlying76 hi9 hz90 hz91 hz92 rfl (by decide) (.slice ca i ccc) i li rfl (HM4.out.2.2.1.alloc _) ⟨w3.heap.size, 0, none⟩ 1 1 [.slice za (l + k) zc] (by first | rfl | (simp; done)) rfl (news_one _ _) (by simp [Value.oneCell']) HbI.out.1 HbI.out.2 (by rw [World.size_alloc]; exact Nat.le_succ_of_le HM4.out.2.2.2.2.2.2.2) ?_
          intro cx' w4 hown4 hgrow4 hat4 hrw4
          obtain ⟨ca', ccc', ecx⟩ := own_slice hown4
          have HM5 : Hid (w4.ownsRow B1 22 1 (.slice ma' (i + 1) mcc') (i + 1) (lm ++ [.slice la (n + k) lc]) ∧ w4.ownsRow B1 55 1 (.slice sa' (i + 1) scc') (i + 1) (lg ++ [.slice xa (m + k) xc]) ∧ w4.ownsRow B1 58 1 cx' (i + 1) (li ++ [.slice za (l + k) zc]) ∧ Ow w4 B B1 26 3 ml mn fM gM 20 (lm ++ [.slice la (n + k) lc]) (i + 1) ∧ Ow w4 B B1 105 3 sl sn fS gS 20 (lg ++ [.slice xa (m + k) xc]) (i + 1) ∧ Ow w4 B B1 112 4 il cn fC gC 20 (li ++ [.slice za (l + k) zc]) (i + 1) ∧ Kp (fun g => Eb ml g ∨ Eb sl g ∨ Eb il g) w1 w4) := by
            obtain ⟨hmx, hsx, hcx, hG1, hG2, hG3, kE, hsz⟩ := HM4.out
            have k2 := kp_row (Kp.alloc w3 (.cells #[.slice za (l + k) zc] 58) Nu) hgrow4
            have ty : ∀ (q : Nat) (c : Array Value) (t : TypeId), w3.heap[q]? = some (.cells c t (0, 0)) → t ≠ 58 → ¬ some q = (Value.slice ca i ccc).ownBlock := fun q c t hc ht e => by
              obtain ⟨c', hc'⟩ := own_obj hcx e.symm
              rw [hc] at hc'; cases hc'; exact ht rfl
            have rk : ∀ {t : Nat} {v : Value} {nn : Nat} {xs : List Value}, w3.ownsRow B1 t 1 v nn xs → t ≠ 58 → w4.ownsRow B1 t 1 v nn xs := fun hr ht => own_keep hr (fun g e => by
              obtain ⟨c, hc⟩ := own_obj hr e
              exact k2.block g (blk_lt hc) (ty g c _ hc ht))
            exact hide ⟨rk hmx (by decide), rk hsx (by decide), hown4, hG1.keep k2 (fun q c hc => ty q c _ hc (by decide)), hG2.keep k2 (fun q c hc => ty q c _ hc (by decide)), hG3.keep k2 (fun q c hc => ty q c _ hc (by decide)), kE.trans k2 (fun q hq e => absurd (HB1.out ▸ hq) (Nat.not_lt_of_le (hcx.lt q e.symm).1))⟩
          subst ecx
          clear hown4 hgrow4 hat4 hrw4
          go_wp2
          exact ⟨⟨i + 1, ma', mcc', sa', scc', ca', ccc', rfl, rfl, rfl, ins i, hfin.out.1, hide ⟨_, _, _, HM5.out.1, HM5.out.2.1, HM5.out.2.2.1, HM5.out.2.2.2.1, HM5.out.2.2.2.2.1, HM5.out.2.2.2.2.2.1, HM5.out.2.2.2.2.2.2⟩⟩, by simp only [intOf]; rw [tns, tn]; exact hfin.out.2⟩
    · have hltI := nlti hlt
      have hiM := hide (show i = N by omega)
      have HG : Hid (∃ lm lg li, Grn B1 wr B b (.slice (some ⟨mg, 0, none⟩) N mc) (.slice (some ⟨sg, 0, none⟩) N sc) (.slice (some ⟨ig, 0, none⟩) N ic) ml sl il mn sn cn (.slice ma i mcc) (.slice sa i scc) (.slice ca i ccc) lm lg li) := by
        obtain ⟨lm, lg, li, hmx, hsx, hcx, hGM, hGS, hGC, hkE⟩ := hE.out
        have e1 := hGM.len
        have e2 := hGS.len
        have e3 := hGC.len
        exact hide ⟨lm, lg, li, hBr, (Rdr.of_own hmx).cast e1, (Rdr.of_own hsx).cast e2, (Rdr.of_own hcx).cast e3, hGM.full, hGS.full, hGC.full, by rw [e1, hiM.out, HN.out.1], by rw [e2, hiM.out, HN.out.2.1], by rw [e3, hiM.out, HN.out.2.2]⟩
      have HK : Hid (Kp (fun g => Eb ml g ∨ Eb sl g ∨ Eb il g) w wr) := by
        obtain ⟨lm, lg, li, _, _, _, _, _, _, hkE⟩ := hE.out
        exact hide (H1.out.2.2.2.2.1.trans hkE (fun g _ e => e))
      obtain ⟨lm, lg, li, hG0⟩ := HG.out
      have HG0 := hide hG0
      clear hG0 HG hE hBr H1 HB1 apM hlt GM0 GS0 GC0
      go_wp2
      clear hltI hi hi0 c0 c1 c2
      generalize wr = wE at *
      go_loopw [11] (fun iv wr => ∃ p : Nat, iv = .int .i64 (p : Int) ∧ p ≤ N ∧ Hid (Kp Nu wE wr)) (fun iv _ => N - (intOf iv).toNat)
      case atStart => exact ⟨0, rfl, Nat.zero_le _, hide (Kp.refl _ _)⟩
      case round =>
        obtain ⟨p, rfl, hp, hkp⟩ := hrel
        have hp0 := nz p
        have hG := HG0.out.nu hkp.out
        obtain ⟨d0, d1, d2⟩ := cell3 hG.bk.blk
        by_cases hltp : p < N
        · have hltI := lti hltp
          have etp := tn p
          obtain ⟨v, hv⟩ : ∃ v, ml[p]? = some v := ⟨_, List.getElem?_eq_getElem (by have := HN.out; omega)⟩
          obtain ⟨n, hn⟩ : ∃ n, mn[p]? = some n := ⟨_, List.getElem?_eq_getElem (by have := HN.out; have := hG.gm.lev; omega)⟩
          obtain ⟨s, hs⟩ : ∃ s, sl[p]? = some s := ⟨_, List.getElem?_eq_getElem (by have := HN.out; omega)⟩
          obtain ⟨m, hm⟩ : ∃ m, sn[p]? = some m := ⟨_, List.getElem?_eq_getElem (by have := HN.out; have := hG.gs.lev; omega)⟩
          obtain ⟨c, hc⟩ : ∃ c, il[p]? = some c := ⟨_, List.getElem?_eq_getElem (by have := HN.out; omega)⟩
          obtain ⟨l, hl⟩ : ∃ l, cn[p]? = some l := ⟨_, List.getElem?_eq_getElem (by have := HN.out; have := hG.gi.lev; omega)⟩
          obtain ⟨x1, hx1⟩ : ∃ l, lm[p]? = some l := ⟨_, List.getElem?_eq_getElem (by have := HN.out; have := hG.lm; omega)⟩
          obtain ⟨x2, hx2⟩ : ∃ x, lg[p]? = some x := ⟨_, List.getElem?_eq_getElem (by have := HN.out; have := hG.lg; omega)⟩
          obtain ⟨x3, hx3⟩ : ∃ x, li[p]? = some x := ⟨_, List.getElem?_eq_getElem (by have := HN.out; have := hG.li; omega)⟩
          obtain ⟨va, vc, ev⟩ := (hG.gm.old p v n (by have := HN.out; have := hG.lm; omega) hv hn).slice
          obtain ⟨ua, uc, es⟩ := (hG.gs.old p s m (by have := HN.out; have := hG.lg; omega) hs hm).slice
          obtain ⟨da, dc, ed⟩ := (hG.gi.old p c l (by have := HN.out; have := hG.li; omega) hc hl).slice
          obtain ⟨la, lc, el⟩ := (hG.gm.new p x1 n hx1 hn).slice
          obtain ⟨ya, yc, ex⟩ := (hG.gs.new p x2 m hx2 hm).slice
          obtain ⟨za, zc, ez⟩ := (hG.gi.new p x3 l hx3 hl).slice
          have hn2 := hide (HA.out.1 n (List.mem_of_getElem? hn))
          have hm2 := hide (HA.out.2.1 m (List.mem_of_getElem? hm))
          have hl2 := hide (HA.out.2.2.1 l (List.mem_of_getElem? hl))
          have hcM : wr.cell? ⟨mg, p, none⟩ = some v := own_cell (B := B) (by have h := hG.bk.m; rw [HN.out.1] at h; exact h) hv
          have hcS : wr.cell? ⟨sg, p, none⟩ = some s := own_cell (B := B) (by have h := hG.bk.s; rw [HN.out.2.1] at h; exact h) hs
          have hcC : wr.cell? ⟨ig, p, none⟩ = some c := own_cell (B := B) (by have h := hG.bk.i; rw [HN.out.2.2] at h; exact h) hc
          subst ev
          subst es
          subst ed
          subst el
          subst ex
          subst ez
          have HV := hide (And.intro hv (And.intro hn (And.intro hs (And.intro hm (And.intro hc (And.intro hl (And.intro hx1 (And.intro hx2 hx3))))))))
          have HPL : Hid (p < lm.length ∧ p < lg.length ∧ p < li.length) := hide ⟨by have := HN.out; have := hG.lm; omega, by have := HN.out; have := hG.lg; omega, by have := HN.out; have := hG.li; omega⟩
          clear hv hn hs hm hc hl hx1 hx2 hx3 hG
          go_wp2_with fail
          go_quiet (fail)
          have kW : Kp Nu wr (wr.drewN nq) := kqn ⟨nq, rfl⟩
          obtain ⟨W5, hW⟩ : ∃ W, wr.drewN nq = W := ⟨_, rfl⟩
          rw [hW] at kW ⊢
          have H5 := hide (And.intro (HG0.out.nu (hkp.out.andNu kW)) (hkp.out.andNu kW))
          clear hW kW hcM hcS hcC d0 d1 d2 hkp
          have HPF := hide (fin20 hltp)
          have HP100 : Hid (p ≤ 100) := hide (le100 hltp n2)
          clear hp hltp n1 n2 hNI hBw1
          obtain ⟨eP1, eP2⟩ := wk1 (k := p) (Nat.le_trans HP100.out (by decide))
          have ewp := wup (p := p) (Nat.le_trans HP100.out (by decide))
          go_wp2
          go_loopw [15] (fun kv wq => ∃ k : Nat, kv = .int .i64 (k : Int) ∧ k ≤ n ∧ wq = W5) (fun kv _ => n - (intOf kv).toNat)
          case atStart => exact ⟨0, rfl, Nat.zero_le _, rfl⟩
          case round =>
            obtain ⟨k, rfl, hk, hw⟩ := hrel
            obtain rfl := hw
            have hk0 := nz k
            have hG := H5.out.1
            obtain ⟨d0, d1, d2⟩ := cell3 hG.bk.blk
            have hcV : wr.cell? ⟨mg, p, none⟩ = some (.slice va n vc) := own_cell (B := B) (by have h := hG.bk.m; rw [HN.out.1] at h; exact h) HV.out.1
            by_cases hlk : k < n
            · have hlkI := lti hlk
              have etk := tn k
              have hfin := hide (fin20 hlk)
              obtain ⟨eK1, eK2⟩ := wk1 (k := k) (le5n hlk hn2.out)
              have ewk := wup (p := k) (le5n hlk hn2.out)
              obtain ⟨vg, eva, x0, x1, x2⟩ := hG.gm.mO HPL.out.1 HV.out.1 HV.out.2.1 hlk
              subst eva
              clear hG hk hlk
              go_wp2
              exact ⟨⟨k + 1, ins k, hfin.out.1, by first | trivial | rfl⟩, by simp only [intOf]; rw [tns, tn]; exact hfin.out.2⟩
            · have hlkI := nlti hlk
              clear hG hk hlk d0 d1 d2 hcV
              go_wp2
              go_loopw [16] (fun kv wq => ∃ k : Nat, kv = .int .i64 (k : Int) ∧ k ≤ m ∧ wq = wr) (fun kv _ => m - (intOf kv).toNat)
              case atStart => exact ⟨0, rfl, Nat.zero_le _, rfl⟩
              case round =>
                obtain ⟨k, rfl, hk, hw⟩ := hrel
                obtain rfl := hw
                have hk0 := nz k
                have hG := H5.out.1
                obtain ⟨d0, d1, d2⟩ := cell3 hG.bk.blk
                have hcV : wr.cell? ⟨sg, p, none⟩ = some (.slice ua m uc) := own_cell (B := B) (by have h := hG.bk.s; rw [HN.out.2.1] at h; exact h) HV.out.2.2.1
                by_cases hlk : k < m
                · have hlkI := lti hlk
                  have etk := tn k
                  have hfin := hide (fin20 hlk)
                  obtain ⟨eK1, eK2⟩ := wk1 (k := k) (le5n hlk hm2.out)
                  have ewk := wup (p := k) (le5n hlk hm2.out)
                  obtain ⟨vg, eva, x0, x1, x2⟩ := hG.gs.sO HPL.out.2.1 HV.out.2.2.1 HV.out.2.2.2.1 hlk
                  subst eva
                  clear hG hk hlk
                  go_wp2
                  exact ⟨⟨k + 1, ins k, hfin.out.1, by first | trivial | rfl⟩, by simp only [intOf]; rw [tns, tn]; exact hfin.out.2⟩
                · have hlkI := nlti hlk
                  clear hG hk hlk d0 d1 d2 hcV
                  go_wp2
                  go_loopw [17] (fun kv wq => ∃ k : Nat, kv = .int .i64 (k : Int) ∧ k ≤ l ∧ wq = wr) (fun kv _ => l - (intOf kv).toNat)
                  case atStart => exact ⟨0, rfl, Nat.zero_le _, rfl⟩
                  case round =>
                    obtain ⟨k, rfl, hk, hw⟩ := hrel
                    obtain rfl := hw
                    have hk0 := nz k
                    have hG := H5.out.1
                    obtain ⟨d0, d1, d2⟩ := cell3 hG.bk.blk
                    have hcV : wr.cell? ⟨ig, p, none⟩ = some (.slice da l dc) := own_cell (B := B) (by have h := hG.bk.i; rw [HN.out.2.2] at h; exact h) HV.out.2.2.2.2.1
                    by_cases hlk : k < l
                    · have hlkI := lti hlk
                      have etk := tn k
                      have hfin := hide (fin20 hlk)
                      obtain ⟨eK1, eK2⟩ := wk1 (k := k) (le5n hlk hl2.out)
                      have ewk := wup (p := k) (le5n hlk hl2.out)
                      obtain ⟨vg, eva, x0, x1, x2, x3⟩ := hG.gi.cO HPL.out.2.2 HV.out.2.2.2.2.1 HV.out.2.2.2.2.2.1 hlk
                      subst eva
                      clear hG hk hlk
                      go_wp2
                      exact ⟨⟨k + 1, ins k, hfin.out.1, by first | trivial | rfl⟩, by simp only [intOf]; rw [tns, tn]; exact hfin.out.2⟩
                    · have hlkI := nlti hlk
                      clear hG hk hlk d0 d1 d2 hcV
                      go_wp2
                      go_loopw [18] (fun kv wq => ∃ k : Nat, kv = .int .i64 (k : Int) ∧ k ≤ 20 ∧ wq = wr) (fun kv _ => 20 - (intOf kv).toNat)
                      case atStart => exact ⟨0, rfl, Nat.zero_le _, rfl⟩
                      case round =>
                        obtain ⟨k, rfl, hk, hw⟩ := hrel
                        obtain rfl := hw
                        have hk0 := nz k
                        by_cases hlk : k < 20
                        · have hlkI := lt20c hlk
                          have etk := tn k
                          have hfin := hide (fin20 hlk)
                          obtain ⟨eK1, eK2⟩ := wk1 (k := k) (le5 hlk)
                          have ewk := wup (p := k) (le5 hlk)
                          have hG := H5.out.1
                          obtain ⟨vg, eva, x0, x1, x2⟩ := hG.gm.mN HV.out.2.2.2.2.2.2.1 HV.out.2.1 hlk
                          obtain ⟨ug, eua, y0, y1, y2⟩ := hG.gs.sN HV.out.2.2.2.2.2.2.2.1 HV.out.2.2.2.1 hlk
                          obtain ⟨cg, eca, z0, z1, z2, z3⟩ := hG.gi.cN HV.out.2.2.2.2.2.2.2.2 HV.out.2.2.2.2.2.1 hlk
                          obtain ⟨mb, ema, hcL⟩ := hG.m.cell2 HV.out.2.2.2.2.2.2.1
                          obtain ⟨sb, esa, hcS⟩ := hG.s.cell2 HV.out.2.2.2.2.2.2.2.1
                          obtain ⟨ib, eia, hcI⟩ := hG.i.cell2 HV.out.2.2.2.2.2.2.2.2
                          have hpi : (p : Int) < (i : Int) := by rw [hiM.out]; exact lti HPF.out.1
                          obtain ⟨n1, n2, n3, n4, n5⟩ := nk20 hn2.out hlk
                          obtain ⟨m1, m2, m3, m4, m5⟩ := nk20 hm2.out hlk
                          obtain ⟨l1, l2, l3, l4, l5⟩ := nk20 hl2.out hlk
                          obtain ⟨ew1, ew2, ew3⟩ := wp1000 HP100.out
                          subst eva
                          subst eua
                          subst eca
                          subst ema
                          subst esa
                          subst eia
                          clear hG hk hlk
                          go_wp2
                          exact ⟨⟨k + 1, ins k, hfin.out.1, by first | trivial | rfl⟩, by simp only [intOf]; rw [tns, tn]; exact hfin.out.2⟩
                        · have hlkI := nlt20c hlk
                          clear hk hlk
                          go_wp2
                          exact ⟨⟨p + 1, ins p, HPF.out.1, hide H5.out.2⟩, by simp only [intOf]; rw [tns, tn]; exact HPF.out.2⟩
        · have hltI := nlti hltp
          have H8 := hide hkp.out
          clear hG hkp hp hltp hp0
          go_wp2
          go_ret
          exact ⟨rfl, HK.out.andNu H8.out⟩
end Go.Proofs.YtffcnonhhfhlhaaDoor.Rg
