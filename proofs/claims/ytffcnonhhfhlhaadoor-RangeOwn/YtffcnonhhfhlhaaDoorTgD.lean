import Derived.Test.YtffcnonhhfhlhaaDoorRfP
import Derived.Maps.AppendAt
import Derived.Maps.OwnSet
import Derived.Maps.RangeWalk
import Derived.Maps.OwnIn
import Derived.Shelf.SlSortCmp.NoneTotal
import Derived.Test.YtffcnonhhfhlhaaDoorProg
import Derived.Sort.Grow
import Derived.Deep.Draws
namespace Go.Proofs.YtffcnonhhfhlhaaDoor.Rg
open Go.RowKit Go.Shelf Go.Sort Go.Maps
open Go.Proofs.YtffcnonhhfhlhaaDoor.It
set_option linter.unusedVariables false

/-- a share -/
structure Sh where
  h : Int
  n : Int
  k : Int
def encS (s : Sh) : Value := .agg #[.int .u8 s.h, .int .i64 s.n, .int .u64 s.k]
def datS (s : Sh) : DataW Unit := .agg [.lit (.int .u8 s.h), .lit (.int .i64 s.n), .lit (.int .u64 s.k)]
def shElem (v : Value) : Option (DataW Unit × List MemPlace) :=
  match v with
  | .agg ⟨[.int .u8 h, .int .i64 n, .int .u64 k]⟩ => some (datS ⟨h, n, k⟩, [])
  | _ => none
theorem shElem_mk (s : Sh) : shElem (encS s) = some (datS s, []) := rfl
theorem shElem_inv {v : Value} {y : DataW Unit × List MemPlace} (h : shElem v = some y) : ∃ s, v = encS s ∧ y = (datS s, []) := by
  unfold shElem at h
  split at h
  · cases h; exact ⟨⟨_, _, _⟩, rfl, rfl⟩
  · cases h
theorem datS_inj {s t : Sh} (h : datS s = datS t) : s = t := by
  cases s; cases t
  simp [datS] at h
  simp [h]
def hk (h : Int) : Lit := .int .u8 h
theorem u87 : Tryd.prog.underlying 103 = some (.map 24 105) := Tryd.underlying103
theorem hostKeyed : Keyed Tryd.prog 24 := int_keyed Tryd.underlying24
theorem zero80 (w : World) : (zeroValue 105).run Tryd.prog w = .ok (encS ⟨0, 0, 0⟩) w := by
  have := Tryd.zeroValue105
  simp [encS, this]

/-- one more segment -/
def moreS (a : Sh) (s : Sg) : Sh := ⟨s.h, a.n + 1, IntKind.u64.wrap (a.k + (if 0 < a.n then IntKind.u64.wrap (IntKind.u64.wrap (s.hi - s.lo) + 1) else IntKind.u64.wrap (s.hi - s.lo)))⟩
set_option maxRecDepth 100000 in
set_option maxHeartbeats 1000000 in
theorem moreSh_any (w : World) (a : Sh) (s : Sg) (hn : 0 ≤ a.n ∧ a.n < 100000) :
    Calls Tryd.prog 56 #[encS a, enc s] w fun e w' => e = .returned (encS (moreS a s)) ∧ Kp Nu w w' := by
  have hw : IntKind.i64.wrap (a.n + 1) = a.n + 1 := by rw [IntKind.wrap_i64]; omega
  have HN := hide hn
  clear hn
  unfold encS enc moreS
  by_cases h : 0 < a.n
  · rw [if_pos h]
    have hd : a.n > 0 := h
    go_enter Tryd.func56, Tryd.ntmps56
    go_wp2
    exact bodyPost_ret (v := .agg #[.int .u8 s.h, .int .i64 (a.n + 1), .int .u64 (IntKind.u64.wrap (a.k + IntKind.u64.wrap (IntKind.u64.wrap (s.hi - s.lo) + 1)))]) (by simp [results, Tryd.results56, go_sem]) rfl ⟨rfl, ((Kp.alloc w _ Nu).andAlloc _).andAlloc _⟩
  · rw [if_neg h]
    have hd : ¬ a.n > 0 := h
    go_enter Tryd.func56, Tryd.ntmps56
    go_wp2
    exact bodyPost_ret (v := .agg #[.int .u8 s.h, .int .i64 (a.n + 1), .int .u64 (IntKind.u64.wrap (a.k + IntKind.u64.wrap (s.hi - s.lo)))]) (by simp [results, Tryd.results56, go_sem]) rfl ⟨rfl, ((Kp.alloc w _ Nu).andAlloc _).andAlloc _⟩

def cntL : List Sg → Int → Int
  | [], _ => 0
  | s :: r, h => (if s.h = h then 1 else 0) + cntL r h
def keyL : List Sg → Int → Int
  | [], _ => 0
  | s :: r, h => (if s.h = h then s.hi - s.lo + 1 else 0) + keyL r h
theorem cntL_snoc (x : Sg) (h : Int) : ∀ L, cntL (L ++ [x]) h = cntL L h + (if x.h = h then 1 else 0)
  | [] => by simp [cntL]
  | s :: r => by simp only [List.cons_append, cntL, cntL_snoc x h r]; omega
theorem keyL_snoc (x : Sg) (h : Int) : ∀ L, keyL (L ++ [x]) h = keyL L h + (if x.h = h then x.hi - x.lo + 1 else 0)
  | [] => by simp [keyL]
  | s :: r => by simp only [List.cons_append, keyL, keyL_snoc x h r]; omega
theorem cntL_range (h : Int) : ∀ L, 0 ≤ cntL L h ∧ cntL L h ≤ L.length
  | [] => by simp [cntL]
  | s :: r => by
    have := cntL_range h r
    simp only [cntL, List.length_cons]
    split <;> omega
theorem keyL_range (h : Int) : ∀ {L : List Sg} {a b : Int}, Cov a L b → cntL L h ≤ keyL L h ∧ keyL L h ≤ b - a ∧ (cntL L h = 0 → keyL L h = 0)
  | [], a, b, hc => by have e : a = b := hc; simp [cntL, keyL]; omega
  | s :: r, a, b, hc => by
    have ih := keyL_range h hc.2.2
    have h1 := hc.1
    have h2 := hc.2.1
    have h3 := (cntL_range h r).1
    simp only [cntL, keyL]
    split <;> omega
/-- what the map holds of a host -/
def curS (L : List Sg) (h : Int) : Sh := if 0 < cntL L h then ⟨h, cntL L h, keyL L h - 1⟩ else ⟨0, 0, 0⟩
theorem more_cur {pre : List Sg} {x : Sg} {m : Int} (hc : Cov 0 pre m) (hx : x.lo = m) (hl : x.lo ≤ x.hi) (hb : x.hi < 18446744073709551616) :
    moreS (curS pre x.h) x = ⟨x.h, cntL (pre ++ [x]) x.h, keyL (pre ++ [x]) x.h - 1⟩ := by
  have h1 := keyL_range x.h hc
  have h2 := (cntL_range x.h pre).1
  have h3 := cov_le hc
  rw [cntL_snoc, keyL_snoc, if_pos rfl, if_pos rfl]
  unfold moreS curS
  by_cases h : 0 < cntL pre x.h
  · rw [if_pos h]
    simp only [h, if_true]
    rw [show IntKind.u64.wrap (x.hi - x.lo) = x.hi - x.lo by rw [IntKind.wrap_u64]; omega, IntKind.wrap_u64, IntKind.wrap_u64]
    congr 1
    omega
  · rw [if_neg h]
    simp only [show ¬ (0 : Int) < 0 by omega, if_false]
    rw [show IntKind.u64.wrap (x.hi - x.lo) = x.hi - x.lo by rw [IntKind.wrap_u64]; omega, IntKind.wrap_u64]
    have h4 : cntL pre x.h = 0 := by omega
    have h5 := h1.2.2 h4
    rw [h4, h5]
    congr 1
    omega
/-- the map behind the segments -/
def Rm (D : DataW Unit) (L : List Sg) : Prop := ∀ h, 0 ≤ h → h < 256 → (0 < cntL L h → has D (hk h) = true ∧ ∀ z, D.atKey (hk h) z = datS ⟨h, cntL L h, keyL L h - 1⟩) ∧ (¬ 0 < cntL L h → has D (hk h) = false)
theorem Rm.start : Rm (.map []) [] := fun h _ _ => ⟨fun h => by simp [cntL] at h, fun _ => rfl⟩
theorem key_hk {h : Int} (h0 : 0 ≤ h) (h1 : h < 256) : keyOf Tryd.prog 24 (.int .u8 h) = some (hk h) := keyOf_int_mk Tryd.underlying24 (by simp [Lit.wf, IntKind.min, IntKind.max, IntKind.signed, IntKind.bits]; omega)
theorem hk_ne {h h' : Int} (hne : h ≠ h') : hk h ≠ hk h' := fun e => hne (by simpa [hk] using e)
theorem Rm.step {D : DataW Unit} {L : List Sg} {x : Sg} (hR : Rm D L) (hm : IsMap D) (h0 : 0 ≤ x.h) (h1 : x.h < 256) : Rm (D.put (hk x.h) (datS ⟨x.h, cntL (L ++ [x]) x.h, keyL (L ++ [x]) x.h - 1⟩)) (L ++ [x]) := by
  intro h g0 g1
  by_cases e : h = x.h
  · subst e
    have hkl : WideAt.IsKeyLit (hk x.h) := hostKeyed.key (key_hk h0 h1)
    refine ⟨fun _ => ⟨has_put_same hm hkl _, fun z => atKey_put_same hm hkl _ z⟩, fun hn => ?_⟩
    have := (cntL_range x.h L).1
    rw [cntL_snoc, if_pos rfl] at hn
    omega
  · have hr := hR h g0 g1
    have e1 : cntL (L ++ [x]) h = cntL L h := by rw [cntL_snoc, if_neg (fun q => e q.symm)]; omega
    have e2 : keyL (L ++ [x]) h = keyL L h := by rw [keyL_snoc, if_neg (fun q => e q.symm)]; omega
    rw [e1, e2, has_put_other (hk_ne e)]
    exact ⟨fun hp => ⟨(hr.1 hp).1, fun z => by rw [atKey_put_other (hk_ne e)]; exact (hr.1 hp).2 z⟩, hr.2⟩
theorem look_share {w : World} {bm nb : Nat} {D : DataW Unit} {L : List Sg} (h : w.ownsMap Tryd.prog 24 shElem bm nb D) (hR : Rm D L) {x : Int} (h0 : 0 ≤ x) (h1 : x < 256) :
    (Instr.lookup 103 (.map (some bm)) (.int .u8 x) false).run Tryd.prog w = .ok (encS (curS L x)) w := by
  obtain ⟨v, ps, hrun, hv⟩ := h.lookup hostKeyed u87 (zero80 w) (shElem_mk ⟨0, 0, 0⟩) (key_hk h0 h1)
  obtain ⟨s, rfl, hs⟩ := shElem_inv hv
  have e : D.atKey (hk x) (datS ⟨0, 0, 0⟩) = datS s := by simpa using congrArg Prod.fst hs
  have e2 : curS L x = s := by
    apply datS_inj
    rw [← e]
    unfold curS
    by_cases hp : 0 < cntL L x
    · rw [if_pos hp, ((hR x h0 h1).1 hp).2]
    · rw [if_neg hp, atKey_of_not_has ((hR x h0 h1).2 hp)]
  rw [e2]
  exact hrun
end Go.Proofs.YtffcnonhhfhlhaaDoor.Rg
/-
  DERIVED: THE SHELF's CONTRACTS AT THIS DUMP, IN PLAIN WORDS (tools/lay-plain.mjs out of 'YtffcnonhhfhlhaaSfL.lean', which tools/lay-shelf.mjs wrote): THE SAME DECLARATIONS UNDER THE SAME NAMES: 'import', 'namespace', 'open', 'def', 'theorem' AND NOTHING ELSE: no command of the shelf's: FOR A HAND-IN. Each laying: the table of numbers ('.._ren') and one theorem, a field a fact of the dump's own or the kernel's comparison; each contract: ONE APPLICATION.
-/
namespace Go.Proofs
open Go.Shelf
def Tryd.sortS_ren : Go.Shelf.Ren := ⟨fun | 6 => 57 | 15 => 77 | 14 => 76 | 28 => 98 | 29 => 99 | 20 => 90 | 21 => 91 | 22 => 92 | 23 => 93 | 24 => 94 | 25 => 95 | 26 => 96 | 27 => 97 | 46 => 111 | 47 => 112 | 48 => 113 | 49 => 114 | 50 => 115 | 57 => 125 | n => n, fun | 22 => 55 | 24 => 105 | 25 => 109 | 3 => 3 | 39 => 131 | 0 => 0 | 53 => 153 | 55 => 23 | 4 => 4 | 46 => 146 | 45 => 145 | 50 => 150 | 5 => 5 | 9 => 9 | 66 => 167 | 70 => 171 | 76 => 177 | 77 => 63 | n => n, fun | n => n⟩
theorem Tryd.sortS : Go.Proofs.SlLaysF0.n6 Tryd.prog Tryd.sortS_ren := {
  mixed := by kernel_rfl
  f6 := ⟨Tryd.f57.name, by decide, Tryd.func57.trans (congrArg some (by kernel_rfl))⟩
  f14 := ⟨Tryd.f76.name, by decide, Tryd.func76.trans (congrArg some (by kernel_rfl))⟩
  f15 := Tryd.func77.trans (congrArg some (by kernel_rfl))
  f20 := ⟨Tryd.f90.name, by decide, Tryd.func90.trans (congrArg some (by kernel_rfl))⟩
  f21 := ⟨Tryd.f91.name, by decide, Tryd.func91.trans (congrArg some (by kernel_rfl))⟩
  f22 := ⟨Tryd.f92.name, by decide, Tryd.func92.trans (congrArg some (by kernel_rfl))⟩
  f23 := ⟨Tryd.f93.name, by decide, Tryd.func93.trans (congrArg some (by kernel_rfl))⟩
  f24 := ⟨Tryd.f94.name, by decide, Tryd.func94.trans (congrArg some (by kernel_rfl))⟩
  f25 := ⟨Tryd.f95.name, by decide, Tryd.func95.trans (congrArg some (by kernel_rfl))⟩
  f26 := ⟨Tryd.f96.name, by decide, Tryd.func96.trans (congrArg some (by kernel_rfl))⟩
  f27 := ⟨Tryd.f97.name, by decide, Tryd.func97.trans (congrArg some (by kernel_rfl))⟩
  f28 := Tryd.func98.trans (congrArg some (by kernel_rfl))
  f29 := Tryd.func99.trans (congrArg some (by kernel_rfl))
  f46 := ⟨Tryd.f111.name, by decide, Tryd.func111.trans (congrArg some (by kernel_rfl))⟩
  f47 := Tryd.func112.trans (congrArg some (by kernel_rfl))
  f48 := Tryd.func113.trans (congrArg some (by kernel_rfl))
  f49 := ⟨Tryd.f114.name, by decide, Tryd.func114.trans (congrArg some (by kernel_rfl))⟩
  f50 := ⟨Tryd.f115.name, by decide, Tryd.func115.trans (congrArg some (by kernel_rfl))⟩
  f57 := ⟨Tryd.f125.name, by decide, Tryd.func125.trans (congrArg some (by kernel_rfl))⟩
  t0 := Tryd.underlying0
  a0 := Tryd.isAgg0
  z0 := Tryd.sizeOf0
  v0 := Tryd.zeroValue0
  t3 := Tryd.underlying3
  a3 := Tryd.isAgg3
  z3 := Tryd.sizeOf3
  v3 := Tryd.zeroValue3
  t4 := Tryd.underlying4
  a4 := Tryd.isAgg4
  z4 := Tryd.sizeOf4
  v4 := Tryd.zeroValue4
  t5 := Tryd.underlying5
  a5 := Tryd.isAgg5
  z5 := Tryd.sizeOf5
  v5 := Tryd.zeroValue5
  t9 := Tryd.underlying9
  a9 := Tryd.isAgg9
  z9 := Tryd.sizeOf9
  v9 := Tryd.zeroValue9
  t22 := Tryd.underlying55
  a22 := Tryd.isAgg55
  z22 := Tryd.sizeOf55
  v22 := Tryd.zeroValue55
  t25 := Tryd.underlying109
  a25 := Tryd.isAgg109
  z25 := Tryd.sizeOf109
  v25 := Tryd.zeroValue109
  t39 := Tryd.underlying131
  a39 := Tryd.isAgg131
  z39 := Tryd.sizeOf131
  v39 := Tryd.zeroValue131
  t45 := Tryd.underlying145
  a45 := Tryd.isAgg145
  z45 := Tryd.sizeOf145
  v45 := Tryd.zeroValue145
  t46 := Tryd.underlying146
  a46 := Tryd.isAgg146
  z46 := Tryd.sizeOf146
  v46 := Tryd.zeroValue146
  t50 := Tryd.underlying150
  a50 := Tryd.isAgg150
  z50 := Tryd.sizeOf150
  v50 := Tryd.zeroValue150
  t53 := Tryd.underlying153
  a53 := Tryd.isAgg153
  z53 := Tryd.sizeOf153
  v53 := Tryd.zeroValue153
  t55 := Tryd.underlying23
  a55 := Tryd.isAgg23
  z55 := Tryd.sizeOf23
  v55 := Tryd.zeroValue23
  t66 := Tryd.underlying167
  a66 := Tryd.isAgg167
  z66 := Tryd.sizeOf167
  v66 := Tryd.zeroValue167
  t70 := Tryd.underlying171
  a70 := Tryd.isAgg171
  z70 := Tryd.sizeOf171
  v70 := Tryd.zeroValue171
  t76 := Tryd.underlying177
  a76 := Tryd.isAgg177
  z76 := Tryd.sizeOf177
  v76 := Tryd.zeroValue177
  t77 := Tryd.underlying63
  a77 := Tryd.isAgg63
  z77 := Tryd.sizeOf63
  v77 := Tryd.zeroValue63 }
end Go.Proofs
namespace Go.Proofs.YtffcnonhhfhlhaaDoor.Rg
open Go.RowKit Go.Shelf Go.Sort Go.Maps
open Go.Proofs.YtffcnonhhfhlhaaDoor.It
set_option linter.unusedVariables false
set_option linter.unusedSimpArgs false

def cmpI (x y : Int) : Int := if x < y then -1 else if x > y then 1 else 0
theorem compare_any (x y : Int) (w : World) : Calls Tryd.prog 59 #[.int .u8 x, .int .u8 y] w fun e w' => e = .returned (.int .i64 (cmpI x y)) ∧ w' = w := by
  have N53 : ∀ x w, Calls Tryd.prog 78 #[.int .u8 x] w fun e w' => e = .returned (.bool false) ∧ w' = w := fun x w => by
    have hx : (x != x) = false := by simp
    go_enter Tryd.func78, Tryd.ntmps78
    go_wp2
    go_ret
    exact ⟨by simp, rfl⟩
  have n1 := N53 x w
  have n2 := N53 y w
  clear N53
  unfold cmpI
  by_cases h1 : x < y
  · rw [if_pos h1]
    go_enter Tryd.func59, Tryd.ntmps59
    go_wp2_with fail
    refine n1.mono ?_; rintro e w2 ⟨rfl, hw⟩; obtain rfl := hw.symm; clear n1 hw
    go_wp2_with fail
    refine n2.mono ?_; rintro e w2 ⟨rfl, hw⟩; obtain rfl := hw.symm; clear n2 hw
    go_wp2
    go_ret
    exact ⟨rfl, rfl⟩
  · rw [if_neg h1]
    by_cases h2 : x > y
    · rw [if_pos h2]
      go_enter Tryd.func59, Tryd.ntmps59
      go_wp2_with fail
      refine n1.mono ?_; rintro e w2 ⟨rfl, hw⟩; obtain rfl := hw.symm; clear n1 hw
      go_wp2_with fail
      refine n2.mono ?_; rintro e w2 ⟨rfl, hw⟩; obtain rfl := hw.symm; clear n2 hw
      go_wp2
      go_ret
      exact ⟨rfl, rfl⟩
    · rw [if_neg h2]
      go_enter Tryd.func59, Tryd.ntmps59
      go_wp2_with fail
      refine n1.mono ?_; rintro e w2 ⟨rfl, hw⟩; obtain rfl := hw.symm; clear n1 hw
      go_wp2_with fail
      refine n2.mono ?_; rintro e w2 ⟨rfl, hw⟩; obtain rfl := hw.symm; clear n2 hw
      go_wp2
      go_ret
      exact ⟨rfl, rfl⟩

structure Gw (w w' : World) : Prop where
  out : ∃ q os, w' = Sort.grow (w.drewN q) os
theorem Gw.refl (w : World) : Gw w w := ⟨⟨0, #[], by rw [Sort.grow_empty]; rfl⟩⟩
theorem Gw.andAlloc {w w' : World} (h : Gw w w') (o : Obj) : Gw w (w'.alloc o) := by
  obtain ⟨q, os, rfl⟩ := h.out
  exact ⟨⟨q, _, by rw [Sort.alloc_eq_grow, Sort.grow_grow]⟩⟩
theorem Gw.drew {w w' : World} (h : Gw w w') : Gw w w'.drew := by
  obtain ⟨q, os, rfl⟩ := h.out
  exact ⟨⟨q + 1, os, rfl⟩⟩
theorem Gw.block {w w' : World} (h : Gw w w') {k : Nat} (hk : k < w.heap.size) : w'.heap[k]? = w.heap[k]? := by
  obtain ⟨q, os, rfl⟩ := h.out
  show (w.heap ++ os)[k]? = _
  rw [Array.getElem?_append_left hk]
theorem Gw.cell {w w' : World} (h : Gw w w') {k n : Nat} {v : Value} (hc : w.cell? ⟨k, n, none⟩ = some v) : w'.cell? ⟨k, n, none⟩ = some v := by
  have hk : k < w.heap.size := World.block_lt_of_cell? w ⟨k, n, none⟩ hc
  simp only [World.cell?, h.block hk] at hc ⊢
  exact hc
theorem Gw.trans {w w' w'' : World} (h : Gw w w') (k : Gw w' w'') : Gw w w'' := by
  obtain ⟨q, os, rfl⟩ := h.out
  obtain ⟨q', os', rfl⟩ := k.out
  refine ⟨⟨q + q', os ++ os', ?_⟩⟩
  have : (Sort.grow (w.drewN q) os).drewN q' = Sort.grow (w.drewN (q + q')) os := by
    show Sort.grow ((w.drewN q).drewN q') os = _
    rw [World.drewN_drewN]
  rw [this, Sort.grow_grow]

theorem byHost_any (a c : Sh) (w : World) : Calls Tryd.prog 58 #[encS a, encS c] w fun e w' => e = .returned (.int .i64 (cmpI a.h c.h)) ∧ Gw w w' := by
  have CC := fun W => compare_any a.h c.h W
  have K0 : Gw w ((w.alloc (.cells #[.int .u8 a.h, .int .i64 a.n, .int .u64 a.k] 105)).alloc (.cells #[.int .u8 c.h, .int .i64 c.n, .int .u64 c.k] 105)) := ((Gw.refl w).andAlloc _).andAlloc _
  unfold encS
  go_enter Tryd.func58, Tryd.ntmps58
  go_wp2_with fail
  refine (CC _).mono ?_; rintro e w2 ⟨rfl, hw⟩; obtain rfl := hw.symm; clear CC hw
  go_wp2
  go_ret
  exact ⟨rfl, K0⟩

theorem ltH (p q : Int) : ltOf cmpI p q = decide (p < q) := by
  unfold ltOf cmpI
  by_cases h1 : p < q
  · simp [h1]
  · by_cases h2 : p > q <;> simp [h1, h2]
theorem swoH : SWO (ltOf cmpI) where
  irrefl p := by rw [ltH]; simp
  trans p q r h1 h2 := by rw [ltH] at *; simp at *; omega
  ntrans p q r h1 h2 := by rw [ltH] at *; simp at *; omega
theorem totH (p q : Int) (h1 : ltOf cmpI p q = false) (h2 : ltOf cmpI q p = false) : p = q := by
  rw [ltH] at *
  simp at h1 h2
  omega
/-- a host's share, its cells -/
def encH (A : List Sg) (h : Int) : List Value := [.int .u8 h, .int .i64 (cntL A h), .int .u64 (keyL A h - 1)]
def cellsH (A : List Sg) (hs : List Int) : List Value := hs.flatMap (encH A)
theorem cellsH_append (A : List Sg) (a b : List Int) : cellsH A (a ++ b) = cellsH A a ++ cellsH A b := by simp [cellsH]
theorem cellsH_len (A : List Sg) (ss : List Int) : (cellsH A ss).length = ss.length * 3 := by
  induction ss with
  | nil => rfl
  | cons p r ih => show (cellsH A r).length + 1 + 1 + 1 = _; rw [ih, List.length_cons]; omega
theorem cellsH_get (A : List Sg) (ss : List Int) : ∀ t, (cellsH A ss)[t]? = (ss[t / 3]?).bind (fun p => (encH A p)[t % 3]?) := by
  induction ss with
  | nil => intro t; simp [cellsH]
  | cons p r ih =>
    intro t
    have e : cellsH A (p :: r) = .int .u8 p :: .int .i64 (cntL A p) :: .int .u64 (keyL A p - 1) :: cellsH A r := rfl
    rw [e]
    match t with
    | 0 => rfl
    | 1 => rfl
    | 2 => rfl
    | t + 3 =>
      have h1 : (t + 3) / 3 = t / 3 + 1 := by omega
      have h2 : (t + 3) % 3 = t % 3 := by omega
      rw [List.getElem?_cons_succ, List.getElem?_cons_succ, List.getElem?_cons_succ, ih, h1, h2, List.getElem?_cons_succ]
theorem flat_H (A : List Sg) (ss : List Int) : flatK (encH A) 3 ss.toArray = (cellsH A ss).toArray := by
  apply Array.ext
  · simp [cellsH_len]
  · intro t h1 h2
    have h3 : t < ss.toArray.size * 3 := by simpa using h1
    have h4 := get_flatK (encH A) 3 ss.toArray t h3
    rw [getElem!_pos _ t h1] at h4
    rw [h4]
    have h5 : t / 3 < ss.length := by simp at h3; omega
    have h6 := cellsH_get A ss t
    rw [List.getElem?_eq_getElem h5] at h6
    have h7 : (cellsH A ss)[t]? = some ((cellsH A ss)[t]'(by simpa using h2)) := List.getElem?_eq_getElem _
    rw [h7] at h6
    have h8 : t % 3 < (encH A (ss[t / 3])).length := by simp [encH]; omega
    simp only [Option.bind_some] at h6
    rw [List.getElem?_eq_getElem h8] at h6
    have h9 : ss.toArray[t / 3]! = ss[t / 3] := by rw [getElem!_pos _ (t / 3) (by simpa using h5)]; simp
    rw [h9, getElem!_pos _ (t % 3) h8]
    simp only [Option.some.injEq] at h6
    simpa using h6.symm
theorem holdsV {w : World} {g : Nat} {cur : Array Value} {e : TypeId} {xs : List Value} (hb : w.heap[g]? = some (.cells cur e (0, 0))) (ht : cur.toList.take xs.length = xs) : Holds id w g 0 xs.toArray := by
  intro j hj
  have hj' : j < xs.length := by simpa using hj
  refine ⟨?_, by simp [World.frozen?, hb]⟩
  have h1 : (cur.toList.take xs.length)[j]? = xs[j]? := by rw [ht]
  rw [List.getElem?_take_of_lt hj'] at h1
  simp only [World.cell?, hb, Nat.zero_add]
  simp only [Option.isSome_none, Bool.false_eq_true, if_false]
  rw [← Array.getElem?_toList, h1]
  simp [hj']
theorem heapV {w : World} {g n : Nat} {os : Array Obj} {cur : Array Value} {e : TypeId} {fr : Nat × Nat} (d : Array Value) (hb : w.heap[g]? = some (.cells cur e fr)) :
    (grow (putRow id (Sort.ahead w n) g 0 d) os).heap[g]? = some (.cells (putCells id 0 d cur) e fr) := by
  have hg : g < w.heap.size := (Array.getElem?_eq_some_iff.1 hb).1
  rw [heap_grow_old _ _ (by simpa using hg)]
  simp [putRow, mapBlock, Sort.ahead, Array.getElem?_modify, hb, onCells]
theorem grownV {w : World} {g n : Nat} {os : Array Obj} (d : Array Value) : w.grownBy (grow (putRow id (Sort.ahead w n) g 0 d) os) (some g) := by
  refine ⟨rfl, rfl, rfl, by simp, fun k hk hne => ?_⟩
  rw [heap_grow_old _ _ (by simpa using hk)]
  have : g ≠ k := fun e => hne (by rw [e])
  simp [putRow, mapBlock, Sort.ahead, Array.getElem?_modify, this]
theorem takeV (cur : Array Value) (ts : List Value) (h : ts.length ≤ cur.size) : (putCells id 0 ts.toArray cur).toList.take ts.length = ts := by
  apply List.ext_getElem?
  intro j
  by_cases hj : j < ts.length
  · rw [List.getElem?_take_of_lt hj, Array.getElem?_toList]
    simp [putCells, hj, show j < cur.size by omega]
  · rw [List.getElem?_take_eq_none (by omega), List.getElem?_eq_none (by omega)]


/-- the hosts in order -/
def srt (ss : List Int) : List Int := ss.mergeSort fun x y => !(ltOf cmpI) y x
theorem srt_len (ss : List Int) : (srt ss).length = ss.length := by simp [srt]
theorem cmpLays (A : List Sg) (blk off size : Nat) (w : World) : CmpLays Tryd.prog 58 #[] (encH A) 3 cmpI blk off size w := fun m os dk hs x y =>
  (byHost_any ⟨x, cntL A x, keyL A x - 1⟩ ⟨y, cntL A y, keyL A y - 1⟩ _).mono fun e w' h => ⟨h.1, h.2.out⟩

set_option maxRecDepth 100000 in
theorem sort_any (w : World) (B : Nat) (v : Value) (A : List Sg) (ss : List Int) (hn : ss ≠ []) (hrow : w.ownsRow B 105 3 v ss.length (cellsH A ss)) (hsz : ss.length < 4611686018427387904) :
    Calls Tryd.prog 57 #[v, .func (.func 58) #[] #[]] w fun e w' => e = .returned (.tuple #[]) ∧ w'.ownsRow B 105 3 v ss.length (cellsH A (srt ss)) ∧ w.grownBy w' v.ownBlock := by
  have eg : ∀ args w, (callFunc 58 args).run Tryd.prog w = .ok (.enter 58 args) w := enters_of Tryd.func58 (by kernel_rfl) rfl
  rcases hrow.2 with ⟨_, h0⟩ | ⟨g, cap, cur, rfl, hb, hgb, h1, h2, h3, h4⟩
  · exact absurd (List.eq_nil_of_length_eq_zero h0) hn
  have hH : HoldsK (encH A) 3 w g 0 ss.toArray := by
    unfold HoldsK
    rw [flat_H]
    exact holdsV hgb (by rw [cellsH_len]; exact h4)
  have hcon := AnyQ.slices_SortFunc_total Tryd.sortS 3 Tryd.isAgg105 Tryd.sizeOf105 (encH A) (fun _ => rfl) (fun x v hv => by simp [encH] at hv; rcases hv with rfl | rfl | rfl <;> rfl) cmpI swoH 58 #[] g 0 cap ss.toArray w eg (cmpLays A _ _ _ _) hH (Array.getElem?_eq_some_iff.1 hgb).1 (by simpa using hsz) totH
  change Calls Tryd.prog 57 #[.slice (some ⟨g, 0, none⟩) ss.length cap, .func (.func 58) #[] #[]] w _ at hcon
  refine hcon.mono ?_
  rintro e w' ⟨rfl, n, os, hw⟩
  have hw2 : w' = grow (putRow id (Sort.ahead w n) g 0 (cellsH A (srt ss)).toArray) os := by
    rw [hw]
    unfold sortWorldK putRowK
    rw [flat_H]
    rfl
  subst hw2
  have hl : (cellsH A (srt ss)).length = ss.length * 3 := by rw [cellsH_len, srt_len]
  refine ⟨rfl, ⟨hl, .inr ⟨g, cap, _, rfl, hb, heapV _ hgb, h1, h2, by simp [putCells, h3], ?_⟩⟩, ?_⟩
  · rw [← hl]
    exact takeV cur _ (by rw [hl, h3]; exact Nat.mul_le_mul_right 3 h1)
  · exact grownV _
end Go.Proofs.YtffcnonhhfhlhaaDoor.Rg
