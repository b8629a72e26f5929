import Derived.Test.YtbifmcadllilhaaRgD
namespace Go.Proofs.Ytbifmcadllilhaa.Rg
open Go.RowKit Go.Shelf Go.Sort
open Go.Proofs.Ytbifmcadllilhaa.It
attribute [local go_sem] Oper.semAt_some
set_option linter.unusedVariables false

/-- a block's cells hold these segments from a place on -/
def Row (cur : Array Value) (off : Nat) (M : List Sg) : Prop := ∀ i s, M[i]? = some s → cur[off + i * 3]? = some (.int .u64 s.lo) ∧ cur[off + i * 3 + 1]? = some (.int .u64 s.hi) ∧ cur[off + i * 3 + 2]? = some (.int .u8 s.h)
theorem Row.drop {cur : Array Value} {off : Nat} {M : List Sg} (h : Row cur off M) (p : Nat) : Row cur (off + p * 3) (M.drop p) := fun i s hs => by
  have := h (p + i) s (by simpa using hs)
  have e : off + p * 3 + i * 3 = off + (p + i) * 3 := by omega
  rw [e]; exact this

theorem Tb.cur {B b : Nat} {w : World} {lim : Int} {v : Value} {L : List Sg} (h : Tb B w b lim v L) {r : Nat} (hr : v.ownBlock = some r) : ∃ cur, w.heap[r]? = some (.cells cur 82 (0, 0)) ∧ Row cur 0 L := by
  obtain ⟨r', cap, e, cur, hc⟩ := h.row
  subst e
  simp [Value.ownBlock] at hr
  subst hr
  refine ⟨cur, hc, fun i s hs => ?_⟩
  obtain ⟨r', cap', e', x0, x1, x2⟩ := row_at h.own hs
  cases e'
  simp only [World.cell?, hc] at x0 x1 x2
  simpa using And.intro x0 (And.intro x1 x2)

set_option maxRecDepth 100000 in
set_option maxHeartbeats 1000000 in
theorem from1_in (n : Nat) (l Bn r off cap : Nat) (M : List Sg) (cur : Array Value) (hM : M.length ≤ 8192) (hrow : Row cur off M) (J Jx : List Sg → World → Prop)
    (hY : ∀ pre x W, J pre W → pre.length < M.length → YieldAt Fence.wide (n - 1) Try.prog l #[enc x] W fun e W' =>
      (e = .returned (.bool true) ∧ J (pre ++ [x]) W' ∧ Kc (fun k _ => k = r) W W') ∨ (e = .returned (.bool false) ∧ Jx (pre ++ [x]) W'))
    (W : World) (hJ : AbidesFrom W.heap.size J) (hc : W.heap[Bn]? = some (.cells #[.slice (some ⟨r, off, none⟩) M.length cap] 36 (0, 0))) (hr : W.heap[r]? = some (.cells cur 82 (0, 0))) (h0 : J [] W) :
    CallsIn Fence.wide n Try.prog 109 #[.func (.yield l) #[] #[], .pointer (some ⟨Bn, 0, none⟩)] W fun e W' => (∃ v, e = .returned v) ∧
      ((∃ ys, ys = M ∧ J ys W') ∨ (∃ pre, pre <+: M ∧ Jx pre W')) := by
  refine callsIn_of_wp Try.func109 rfl trivial ?_ rfl
  simp only [Try.ntmps109, List.size_toArray, List.length_cons, List.length_nil, Nat.reduceAdd, Nat.reduceSub, Array.replicate_succ, Array.replicate_zero, List.push_toArray, List.append_toArray, List.nil_append, List.cons_append]
  have hcc := cell1 hc
  have HROW := hide hrow
  obtain ⟨N, hN⟩ : ∃ N, M.length = N := ⟨_, rfl⟩
  rw [hN] at hcc hY hM
  have HY := hide hY
  have HJ := hide hJ
  clear hrow hc hY hJ
  have HN := hide hN
  clear hN
  gi_wp2
  gi_loopw [7] (fun i wr => ∃ k : Nat, i = .int .i64 (k : Int) ∧ k ≤ N ∧ wr.heap[r]? = some (.cells cur 82 (0, 0)) ∧ Hid (J (M.take k) wr))
    (fun i _ => N - (intOf i).toNat)
  case atStart => exact ⟨0, rfl, Nat.zero_le _, hr, show J (M.take 0) W by simpa using h0⟩
  case round =>
    obtain ⟨k, rfl, hk, hrw, hJk⟩ := hrel
    by_cases hlt : k < N
    · have hkM : k < M.length := by rw [HN.out]; exact hlt
      obtain ⟨s, hs⟩ : ∃ s, M[k]? = some s := ⟨_, List.getElem?_eq_getElem hkM⟩
      obtain ⟨x0, x1, x2⟩ := HROW.out k s hs
      have y0 : wr.cell? ⟨r, off + k * 3, none⟩ = some (.int .u64 s.lo) := by simp [World.cell?, hrw, x0]
      have y1 : wr.cell? ⟨r, off + k * 3 + 1, none⟩ = some (.int .u64 s.hi) := by simp [World.cell?, hrw, x1]
      have y2 : wr.cell? ⟨r, off + k * 3 + 2, none⟩ = some (.int .u8 s.h) := by simp [World.cell?, hrw, x2]
      have hltI : (k : Int) < (N : Int) := by omega
      have hk0 : (0 : Int) ≤ (k : Int) := by omega
      have hkN : (k : Int) ≤ 8192 := by omega
      have hJ2 : J (M.take k) (wr.alloc (.cells #[.int .u64 s.lo, .int .u64 s.hi, .int .u8 s.h] 82)) := HJ.out _ _ _ none hJk.out (World.grownBy_alloc wr _ none) (fun r e => by cases e)
      obtain ⟨fn, tmps, assign, body, hy, hR⟩ := HY.out (M.take k) s _ hJ2 (by simp; omega)
      have HT : Hid (M.take k ++ [s] = M.take (k + 1)) := by
        show _ = _
        rw [List.take_add_one, hs]; rfl
      have HB : Hid ((wr.alloc (.cells #[.int .u64 s.lo, .int .u64 s.hi, .int .u8 s.h] 82)).heap[r]? = some (.cells cur 82 (0, 0))) := (Below.heap_alloc _ _ _ (blk_lt hrw)).trans hrw
      unfold enc at hy
      clear hJ2 hJk x0 x1 x2 hs hrw
      gi_wp2
      refine ⟨fun h => (by cases h), hR.mono ?_⟩
      rintro e W3 (⟨rfl, hJ4, hk3⟩ | ⟨rfl, hJx3⟩)
      · have hr3 := hk3 r _ _ _ rfl HB.out
        gi_wp2
        go_roundw
        case rel => exact ⟨k + 1, by go_num, by omega, hr3, by rw [← HT.out]; exact hJ4⟩
        case measure => simp [intOf]; omega
      · gi_wp2
        refine bodyPost_ret (results_none rfl _ _ _) rfl ?_
        exact ⟨⟨_, rfl⟩, .inr ⟨_, ⟨M.drop (k + 1), by rw [HT.out]; simp⟩, hJx3⟩⟩
    · have hge : ¬ (k : Int) < (N : Int) := by omega
      have HF : Hid (J M wr) := by
        have := hJk.out
        rwa [List.take_of_length_le (by rw [HN.out]; omega)] at this
      clear hJk
      gi_wp2
      go_end0
      first | exact ⟨⟨_, rfl⟩, .inl ⟨M, rfl, HF.out⟩⟩ | exact ⟨⟨_, rfl⟩, .inl HF.out⟩

theorem from_stops (n Bn r off cap : Nat) (M : List Sg) (cur : Array Value) (hM : M.length ≤ 8192) (hrow : Row cur off M) (w : World) (hc : w.heap[Bn]? = some (.cells #[.slice (some ⟨r, off, none⟩) M.length cap] 36 (0, 0))) (hr : w.heap[r]? = some (.cells cur 82 (0, 0))) :
    SeqStopsK Fence.wide n Try.prog 109 #[.pointer (some ⟨Bn, 0, none⟩)] (fun x : Sg => #[enc x]) (Kc (fun k _ => k = r)) (fun ys => ys = M) (fun pre => pre <+: M) M.length w := fun l J Jx W hW hJ _ hY h0 =>
  from1_in n l Bn r off cap M cur hM hrow J Jx hY W hJ ((hW.block Bn (blk_lt hc)).trans hc) ((hW.block r (blk_lt hr)).trans hr) h0
end Go.Proofs.Ytbifmcadllilhaa.Rg
