import Derived.Test.YtffcnonhhfhlhaaTgA
import Derived.Maps.AppendAt
import Derived.Maps.OwnSet
import Derived.Maps.RangeWalk
import Derived.Maps.OwnIn
namespace Go.Proofs.Ytffcnonhhfhlhaa.Rg
open Go.RowKit Go.Shelf Go.Sort Go.Maps
open Go.Proofs.Ytffcnonhhfhlhaa.It
set_option linter.unusedVariables false

/-- a share -/
structure Sh where
  h : Int
  n : Int
  k : Int
def encS (s : Sh) : Value := .agg #[.int .u8 s.h, .int .i64 s.n, .int .u64 s.k]
def datS (s : Sh) : DataW Unit := .agg [.lit (.int .u8 s.h), .lit (.int .i64 s.n), .lit (.int .u64 s.k)]
def shElem (v : Value) : Option (DataW Unit × List MemPlace) :=
  match v with
  | .agg ⟨[.int .u8 h, .int .i64 n, .int .u64 k]⟩ => some (datS ⟨h, n, k⟩, [])
  | _ => none
theorem shElem_mk (s : Sh) : shElem (encS s) = some (datS s, []) := rfl
theorem shElem_inv {v : Value} {y : DataW Unit × List MemPlace} (h : shElem v = some y) : ∃ s, v = encS s ∧ y = (datS s, []) := by
  unfold shElem at h
  split at h
  · cases h; exact ⟨⟨_, _, _⟩, rfl, rfl⟩
  · cases h
theorem datS_inj {s t : Sh} (h : datS s = datS t) : s = t := by
  cases s; cases t
  simp [datS] at h
  simp [h]
def hk (h : Int) : Lit := .int .u8 h
theorem u87 : Try.prog.underlying 87 = some (.map 22 80) := Try.underlying87
theorem hostKeyed : Keyed Try.prog 22 := int_keyed Try.underlying22
theorem zero80 (w : World) : (zeroValue 80).run Try.prog w = .ok (encS ⟨0, 0, 0⟩) w := by
  have := Try.zeroValue80
  simp [encS, this]

/-- one more segment -/
def moreS (a : Sh) (s : Sg) : Sh := ⟨s.h, a.n + 1, IntKind.u64.wrap (a.k + (if 0 < a.n then IntKind.u64.wrap (IntKind.u64.wrap (s.hi - s.lo) + 1) else IntKind.u64.wrap (s.hi - s.lo)))⟩
set_option maxRecDepth 100000 in
set_option maxHeartbeats 1000000 in
theorem more_any (w : World) (a : Sh) (s : Sg) (hn : 0 ≤ a.n ∧ a.n < 100000) :
    Calls Try.prog 44 #[encS a, enc s] w fun e w' => e = .returned (encS (moreS a s)) ∧ Kp Nu w w' := by
  have hw : IntKind.i64.wrap (a.n + 1) = a.n + 1 := by rw [IntKind.wrap_i64]; omega
  have HN := hide hn
  clear hn
  unfold encS enc moreS
  by_cases h : 0 < a.n
  · rw [if_pos h]
    have hd : a.n > 0 := h
    go_enter Try.func44, Try.ntmps44
    go_wp2
    exact bodyPost_ret (v := .agg #[.int .u8 s.h, .int .i64 (a.n + 1), .int .u64 (IntKind.u64.wrap (a.k + IntKind.u64.wrap (IntKind.u64.wrap (s.hi - s.lo) + 1)))]) (by simp [results, Try.results44, go_sem]) rfl ⟨rfl, ((Kp.alloc w _ Nu).andAlloc _).andAlloc _⟩
  · rw [if_neg h]
    have hd : ¬ a.n > 0 := h
    go_enter Try.func44, Try.ntmps44
    go_wp2
    exact bodyPost_ret (v := .agg #[.int .u8 s.h, .int .i64 (a.n + 1), .int .u64 (IntKind.u64.wrap (a.k + IntKind.u64.wrap (s.hi - s.lo)))]) (by simp [results, Try.results44, go_sem]) rfl ⟨rfl, ((Kp.alloc w _ Nu).andAlloc _).andAlloc _⟩

def cntL : List Sg → Int → Int
  | [], _ => 0
  | s :: r, h => (if s.h = h then 1 else 0) + cntL r h
def keyL : List Sg → Int → Int
  | [], _ => 0
  | s :: r, h => (if s.h = h then s.hi - s.lo + 1 else 0) + keyL r h
theorem cntL_snoc (x : Sg) (h : Int) : ∀ L, cntL (L ++ [x]) h = cntL L h + (if x.h = h then 1 else 0)
  | [] => by simp [cntL]
  | s :: r => by simp only [List.cons_append, cntL, cntL_snoc x h r]; omega
theorem keyL_snoc (x : Sg) (h : Int) : ∀ L, keyL (L ++ [x]) h = keyL L h + (if x.h = h then x.hi - x.lo + 1 else 0)
  | [] => by simp [keyL]
  | s :: r => by simp only [List.cons_append, keyL, keyL_snoc x h r]; omega
theorem cntL_range (h : Int) : ∀ L, 0 ≤ cntL L h ∧ cntL L h ≤ L.length
  | [] => by simp [cntL]
  | s :: r => by
    have := cntL_range h r
    simp only [cntL, List.length_cons]
    split <;> omega
theorem keyL_range (h : Int) : ∀ {L : List Sg} {a b : Int}, Cov a L b → cntL L h ≤ keyL L h ∧ keyL L h ≤ b - a ∧ (cntL L h = 0 → keyL L h = 0)
  | [], a, b, hc => by have e : a = b := hc; simp [cntL, keyL]; omega
  | s :: r, a, b, hc => by
    have ih := keyL_range h hc.2.2
    have h1 := hc.1
    have h2 := hc.2.1
    have h3 := (cntL_range h r).1
    simp only [cntL, keyL]
    split <;> omega
/-- what the map holds of a host -/
def curS (L : List Sg) (h : Int) : Sh := if 0 < cntL L h then ⟨h, cntL L h, keyL L h - 1⟩ else ⟨0, 0, 0⟩
theorem more_cur {pre : List Sg} {x : Sg} {m : Int} (hc : Cov 0 pre m) (hx : x.lo = m) (hl : x.lo ≤ x.hi) (hb : x.hi < 18446744073709551616) :
    moreS (curS pre x.h) x = ⟨x.h, cntL (pre ++ [x]) x.h, keyL (pre ++ [x]) x.h - 1⟩ := by
  have h1 := keyL_range x.h hc
  have h2 := (cntL_range x.h pre).1
  have h3 := cov_le hc
  rw [cntL_snoc, keyL_snoc, if_pos rfl, if_pos rfl]
  unfold moreS curS
  by_cases h : 0 < cntL pre x.h
  · rw [if_pos h]
    simp only [h, if_true]
    rw [show IntKind.u64.wrap (x.hi - x.lo) = x.hi - x.lo by rw [IntKind.wrap_u64]; omega, IntKind.wrap_u64, IntKind.wrap_u64]
    congr 1
    omega
  · rw [if_neg h]
    simp only [show ¬ (0 : Int) < 0 by omega, if_false]
    rw [show IntKind.u64.wrap (x.hi - x.lo) = x.hi - x.lo by rw [IntKind.wrap_u64]; omega, IntKind.wrap_u64]
    have h4 : cntL pre x.h = 0 := by omega
    have h5 := h1.2.2 h4
    rw [h4, h5]
    congr 1
    omega
/-- the map behind the segments -/
def Rm (D : DataW Unit) (L : List Sg) : Prop := ∀ h, 0 ≤ h → h < 256 → (0 < cntL L h → has D (hk h) = true ∧ ∀ z, D.atKey (hk h) z = datS ⟨h, cntL L h, keyL L h - 1⟩) ∧ (¬ 0 < cntL L h → has D (hk h) = false)
theorem Rm.start : Rm (.map []) [] := fun h _ _ => ⟨fun h => by simp [cntL] at h, fun _ => rfl⟩
theorem key_hk {h : Int} (h0 : 0 ≤ h) (h1 : h < 256) : keyOf Try.prog 22 (.int .u8 h) = some (hk h) := keyOf_int_mk Try.underlying22 (by simp [Lit.wf, IntKind.min, IntKind.max, IntKind.signed, IntKind.bits]; omega)
theorem hk_ne {h h' : Int} (hne : h ≠ h') : hk h ≠ hk h' := fun e => hne (by simpa [hk] using e)
theorem Rm.step {D : DataW Unit} {L : List Sg} {x : Sg} (hR : Rm D L) (hm : IsMap D) (h0 : 0 ≤ x.h) (h1 : x.h < 256) : Rm (D.put (hk x.h) (datS ⟨x.h, cntL (L ++ [x]) x.h, keyL (L ++ [x]) x.h - 1⟩)) (L ++ [x]) := by
  intro h g0 g1
  by_cases e : h = x.h
  · subst e
    have hkl : WideAt.IsKeyLit (hk x.h) := hostKeyed.key (key_hk h0 h1)
    refine ⟨fun _ => ⟨has_put_same hm hkl _, fun z => atKey_put_same hm hkl _ z⟩, fun hn => ?_⟩
    have := (cntL_range x.h L).1
    rw [cntL_snoc, if_pos rfl] at hn
    omega
  · have hr := hR h g0 g1
    have e1 : cntL (L ++ [x]) h = cntL L h := by rw [cntL_snoc, if_neg (fun q => e q.symm)]; omega
    have e2 : keyL (L ++ [x]) h = keyL L h := by rw [keyL_snoc, if_neg (fun q => e q.symm)]; omega
    rw [e1, e2, has_put_other (hk_ne e)]
    exact ⟨fun hp => ⟨(hr.1 hp).1, fun z => by rw [atKey_put_other (hk_ne e)]; exact (hr.1 hp).2 z⟩, hr.2⟩
theorem look_share {w : World} {bm nb : Nat} {D : DataW Unit} {L : List Sg} (h : w.ownsMap Try.prog 22 shElem bm nb D) (hR : Rm D L) {x : Int} (h0 : 0 ≤ x) (h1 : x < 256) :
    (Instr.lookup 87 (.map (some bm)) (.int .u8 x) false).run Try.prog w = .ok (encS (curS L x)) w := by
  obtain ⟨v, ps, hrun, hv⟩ := h.lookup hostKeyed u87 (zero80 w) (shElem_mk ⟨0, 0, 0⟩) (key_hk h0 h1)
  obtain ⟨s, rfl, hs⟩ := shElem_inv hv
  have e : D.atKey (hk x) (datS ⟨0, 0, 0⟩) = datS s := by simpa using congrArg Prod.fst hs
  have e2 : curS L x = s := by
    apply datS_inj
    rw [← e]
    unfold curS
    by_cases hp : 0 < cntL L x
    · rw [if_pos hp, ((hR x h0 h1).1 hp).2]
    · rw [if_neg hp, atKey_of_not_has ((hR x h0 h1).2 hp)]
  rw [e2]
  exact hrun
end Go.Proofs.Ytffcnonhhfhlhaa.Rg
