import Derived.Test.YtffcnonhhfhlhaaDoorWsD
namespace Go.Proofs.YtffcnonhhfhlhaaDoor.Ws
open Go.RowKit Go.Shelf Go.Sort
open Go.Proofs.YtffcnonhhfhlhaaDoor.It
attribute [local go_sem] Oper.semAt_some
set_option linter.unusedVariables false
def str (l : List UInt8) : Value := .string ⟨l.toArray⟩
theorem ext_arr (l : List UInt8) (a b : Nat) : (⟨l.toArray⟩ : ByteArray).extract a b = ⟨((l.take b).drop a).toArray⟩ := by
  have h := ext_list ⟨l.toArray⟩ a b
  simp only at h
  apply ByteArray.ext
  apply Array.toList_inj.1
  rw [h]
theorem spl_none {c : UInt8} {l : List UInt8} (h : cutL c l = (l, none)) : spl c l = [l] := by rw [spl_cut, h]
theorem spl_some {c : UInt8} {l a r : List UInt8} (h : cutL c l = (a, some r)) : spl c l = a :: spl c r := by rw [spl_cut, h]
def msr (bs : Nat) (wr : World) : Nat := match wr.cell? ⟨bs, 0, none⟩ with | some (.string t) => t.size | _ => 0
set_option maxRecDepth 100000 in
set_option maxHeartbeats 1000000 in
theorem split1_s (n : Nat) (l bp bs bz : Nat) (s : List UInt8) (hs : s.length ≤ 140737488355328) (J Jx : List (List UInt8) → World → Prop)
    (hne : bp ≠ bs ∧ bz ≠ bs)
    (hJs : ∀ pre W1 v u t, J pre W1 → W1.heap[bs]? = some (.cells #[u] t (0, 0)) → J pre (W1.setCell ⟨bs, 0, none⟩ v))
    (hY : ∀ pre x W, J pre W → pre ++ [x] <+: spl 32 s → YieldAt Fence.wide (n - 1) Tryd.prog l #[str x] W fun e W' =>
      (e = .returned (.bool true) ∧ J (pre ++ [x]) W' ∧ Kc (fun k _ => k = bp ∨ k = bs ∨ k = bz) W W') ∨ (e = .returned (.bool false) ∧ Jx (pre ++ [x]) W'))
    (W : World) (hp : W.heap[bp]? = some (.cells #[.string ⟨#[32]⟩] 9 (0, 0))) (hb : W.heap[bs]? = some (.cells #[str s] 9 (0, 0))) (hz : W.heap[bz]? = some (.cells #[.int .i64 0] 3 (0, 0))) (h0 : J [] W) :
    CallsIn Fence.wide n Tryd.prog 101 #[.func (.yield l) #[] #[], .pointer (some ⟨bp, 0, none⟩), .pointer (some ⟨bs, 0, none⟩), .pointer (some ⟨bz, 0, none⟩)] W fun e W' => (∃ v, e = .returned v) ∧
      ((∃ ys, ys = spl 32 s ∧ J ys W') ∨ (∃ pre, pre <+: spl 32 s ∧ Jx pre W')) := by
  refine callsIn_of_wp Tryd.func101 rfl trivial ?_ rfl
  simp only [Tryd.ntmps101, List.size_toArray, List.length_cons, List.length_nil, Nat.reduceAdd, Nat.reduceSub, Array.replicate_succ, Array.replicate_zero, List.push_toArray, List.append_toArray, List.nil_append, List.cons_append]
  have c1 := Rg.cell1 hp
  have hsz : (⟨#[32]⟩ : ByteArray).size = 1 := rfl
  have HY := hide hY
  have HJ := hide (And.intro hJs (And.intro hne hs))
  have HST : Hid (∃ (pre : List (List UInt8)) (r : List UInt8), spl 32 s = pre ++ spl 32 r ∧ r.length ≤ s.length ∧ W.heap[bs]? = some (.cells #[str r] 9 (0, 0)) ∧ W.heap[bp]? = some (.cells #[.string ⟨#[32]⟩] 9 (0, 0)) ∧ W.heap[bz]? = some (.cells #[.int .i64 0] 3 (0, 0)) ∧ J pre W) := hide ⟨[], s, rfl, Nat.le_refl _, hb, hp, hz, h0⟩
  clear hY hJs hb hz h0 hp hne hs
  gi_wp2
  gi_loopw [7] (fun _ wr => Hid (∃ (pre : List (List UInt8)) (r : List UInt8), spl 32 s = pre ++ spl 32 r ∧ r.length ≤ s.length ∧ wr.heap[bs]? = some (.cells #[str r] 9 (0, 0)) ∧ wr.heap[bp]? = some (.cells #[.string ⟨#[32]⟩] 9 (0, 0)) ∧ wr.heap[bz]? = some (.cells #[.int .i64 0] 3 (0, 0)) ∧ J pre wr)) (fun _ wr => msr bs wr)
  case atStart => exact HST
  case round =>
    obtain ⟨pre, r, hspl, hrl, hbs, hbp, hbz, hJp⟩ := hrel.out
    clear HST hrel c1
    have d1 := Rg.cell1 hbp
    have d2 := Rg.cell1 hbs
    have d3 := Rg.cell1 hbz
    have f2 := Rg.free3 hbs 0
    have hms : Hid (msr bs wr = r.length) := hide (by unfold msr; rw [d2]; simp [str, ByteArray.size])
    have IX := index103 ⟨r.toArray⟩ 32 wr
    simp only at IX
    unfold str at d2
    have hsize : (⟨r.toArray⟩ : ByteArray).size = r.length := by simp [ByteArray.size]
    have HA := hide (And.intro hspl (And.intro hrl (And.intro hbs (And.intro hbp (And.intro hbz (And.intro hJp HJ.out.2.2))))))
    rcases cut_idx 32 r with ⟨h1, h2⟩ | ⟨k, h1, h2, h3⟩
    · rw [h1] at IX
      have hall : spl 32 s = pre ++ [r] := by rw [hspl, spl_none h2]
      obtain ⟨fn, tmps, assign, body, hy, hR⟩ := HY.out pre r wr hJp ⟨[], by rw [hall]; simp⟩
      unfold str at hy
      have HW := hide hall
      clear h1 h2 hspl hrl hbs hbp hbz hJp hall
      gi_wp2_with fail
      refine ⟨trivial, fun h => (by cases h), (callsIn_wide.2 IX).mono ?_⟩
      rintro e w' ⟨rfl, hw'⟩; obtain rfl := hw'.symm
      gi_wp2
      refine ⟨fun h => (by cases h), hR.mono ?_⟩
      rintro e W3 (⟨rfl, hJ4, hk3⟩ | ⟨rfl, hJx3⟩)
      · have HF := hide hJ4
        clear hJ4 hk3
        gi_wp2
        go_end0
        first | exact ⟨⟨_, rfl⟩, .inl ⟨_, HW.out.symm, HF.out⟩⟩ | (rw [HW.out]; exact ⟨⟨_, rfl⟩, .inl HF.out⟩)
      · have HF := hide hJx3
        clear hJx3
        gi_wp2
        go_end0
        exact ⟨⟨_, rfl⟩, .inr ⟨_, ⟨[], by rw [HW.out]; simp⟩, HF.out⟩⟩
    · rw [h2] at IX
      have hall : spl 32 s = pre ++ (r.take k :: spl 32 (r.drop (k + 1))) := by rw [hspl, spl_some h3]
      obtain ⟨fn, tmps, assign, body, hy, hR⟩ := HY.out pre (r.take k) wr hJp ⟨spl 32 (r.drop (k + 1)), by rw [hall]; simp⟩
      unfold str at hy
      have HW : Hid (spl 32 s = (pre ++ [r.take k]) ++ spl 32 (r.drop (k + 1)) ∧ (r.drop (k + 1)).length ≤ s.length ∧ (r.drop (k + 1)).length < r.length ∧ (pre ++ [r.take k]) <+: spl 32 s) := hide ⟨by rw [hall]; simp, by rw [List.length_drop]; omega, by rw [List.length_drop]; omega, ⟨spl 32 (r.drop (k + 1)), by rw [hall]; simp⟩⟩
      have e1 : (⟨r.toArray⟩ : ByteArray).extract 0 k = ⟨(r.take k).toArray⟩ := by rw [ext_arr]; simp
      have e2 : (⟨r.toArray⟩ : ByteArray).extract (k + 1) r.length = ⟨(r.drop (k + 1)).toArray⟩ := by rw [ext_arr, List.take_of_length_le (Nat.le_refl _)]
      have hbig := HJ.out.2.2
      have k0 : (0 : Int) ≤ (k : Int) := by omega
      have k1 : (k : Int) ≤ (r.length : Int) := by omega
      have k2 : (k : Int) + 1 ≤ (r.length : Int) := by omega
      have k3 : ((k : Int) + 1).toNat = k + 1 := by omega
      have k4 : (k : Int).toNat = k := by omega
      have k6 : (0 : Int) ≤ (k : Int) + 1 := by omega
      have k7 : ¬ (k : Int) < 0 := by omega
      obtain ⟨q1, q2⟩ := kw ((k : Int) + 1) (by omega) (by omega)
      obtain ⟨q3, q4⟩ := kw (k : Int) (by omega) (by omega)
      clear h1 h2 h3 hspl hrl hbs hbp hbz hJp hall hbig
      gi_wp2_with fail
      refine ⟨trivial, fun h => (by cases h), (callsIn_wide.2 IX).mono ?_⟩
      rintro e w' ⟨rfl, hw'⟩; obtain rfl := hw'.symm
      gi_wp2_with fail
      refine ⟨fun h => (by cases h), hR.mono ?_⟩
      rintro e W3 (⟨rfl, hJ4, hk3⟩ | ⟨rfl, hJx3⟩)
      · obtain ⟨_, _, hbs, hbp, hbz, _⟩ := HA.out
        have b1 := hk3 bp _ _ _ (.inl rfl) hbp
        have b2 := hk3 bs _ _ _ (.inr (.inl rfl)) hbs
        have b3 := hk3 bz _ _ _ (.inr (.inr rfl)) hbz
        have g1 := Rg.cell1 b1
        have g2 := Rg.cell1 b2
        have g3 := Rg.free3 b2 0
        have hset := Rg.set3 b2 0 (str (r.drop (k + 1)))
        have HN : Hid (∃ (pre : List (List UInt8)) (r' : List UInt8), spl 32 s = pre ++ spl 32 r' ∧ r'.length ≤ s.length ∧ (W3.setCell ⟨bs, 0, none⟩ (str (r.drop (k + 1)))).heap[bs]? = some (.cells #[str r'] 9 (0, 0)) ∧ (W3.setCell ⟨bs, 0, none⟩ (str (r.drop (k + 1)))).heap[bp]? = some (.cells #[.string ⟨#[32]⟩] 9 (0, 0)) ∧ (W3.setCell ⟨bs, 0, none⟩ (str (r.drop (k + 1)))).heap[bz]? = some (.cells #[.int .i64 0] 3 (0, 0)) ∧ J pre (W3.setCell ⟨bs, 0, none⟩ (str (r.drop (k + 1))))) := hide ⟨pre ++ [r.take k], r.drop (k + 1), HW.out.1, HW.out.2.1, hset, (set_other _ _ _ _ HJ.out.2.1.1).trans b1, (set_other _ _ _ _ HJ.out.2.1.2).trans b3, HJ.out.1 _ _ _ _ _ hJ4 b2⟩
        have HM : Hid (msr bs (W3.setCell ⟨bs, 0, none⟩ (str (r.drop (k + 1)))) < msr bs wr) := hide (by
          rw [hms.out]
          unfold msr
          rw [Rg.cell1 hset]
          simp only [str, ByteArray.size, List.size_toArray]
          exact HW.out.2.2.1)
        unfold str at g2 HN HM
        clear hJ4 hk3 hbs hbp hbz b1 b2 b3 hset hy hR d1 d2 d3 f2
        gi_wp2
        go_roundw
        case rel => exact HN
        case measure => exact HM.out
      · have HF := hide hJx3
        clear hJx3
        gi_wp2
        refine bodyPost_ret (results_none rfl _ _ _) rfl ?_
        exact ⟨⟨_, rfl⟩, .inr ⟨_, HW.out.2.2.2, HF.out⟩⟩
theorem split_s (bp bs bz : Nat) (s : List UInt8) (hs : s.length ≤ 140737488355328) (hne : bp ≠ bs ∧ bz ≠ bs) (w : World) (hp : w.heap[bp]? = some (.cells #[.string ⟨#[32]⟩] 9 (0, 0))) (hb : w.heap[bs]? = some (.cells #[str s] 9 (0, 0))) (hz : w.heap[bz]? = some (.cells #[.int .i64 0] 3 (0, 0))) :
    SeqS Tryd.prog 101 #[.pointer (some ⟨bp, 0, none⟩), .pointer (some ⟨bs, 0, none⟩), .pointer (some ⟨bz, 0, none⟩)] (fun x : List UInt8 => #[str x]) (fun k _ => k = bp ∨ k = bs ∨ k = bz) (fun ys => ys = spl 32 s) (fun pre => pre <+: spl 32 s) bs w := fun n l J Jx W hW hJ hJx hJs hY h0 =>
  split1_s n l bp bs bz s hs J Jx hne hJs (fun pre x W1 hj hl => by
      obtain ⟨fn, tmps, assign, body, hy, hR⟩ := hY pre x W1 hj hl (n - 1)
      exact ⟨fn, tmps, assign, body, hy, hR.mono fun e W' hh => hh.2⟩) W
    ((hW.block bp (Rg.blk_lt hp)).trans hp) ((hW.block bs (Rg.blk_lt hb)).trans hb) ((hW.block bz (Rg.blk_lt hz)).trans hz) h0
set_option maxHeartbeats 1000000 in
/-- strings.SplitSeq at a blank -/
theorem splitSeq64 (s : List UInt8) (w : World) :
    Calls Tryd.prog 64 #[str s, .string ⟨#[32]⟩] w fun e w' => e = .returned (.func (.func 101) #[] #[.pointer (some ⟨w.heap.size + 1, 0, none⟩), .pointer (some ⟨w.heap.size, 0, none⟩), .pointer (some ⟨w.heap.size + 2, 0, none⟩)]) ∧ w'.heap[w.heap.size]? = some (.cells #[str s] 9 (0, 0)) ∧ w'.heap[w.heap.size + 1]? = some (.cells #[.string ⟨#[32]⟩] 9 (0, 0)) ∧ w'.heap[w.heap.size + 2]? = some (.cells #[.int .i64 0] 3 (0, 0)) ∧ Rg.Kp Rg.Nu w w' := by
  have k1 := Rg.Kp.alloc w (.cells #[str s] 9) Rg.Nu
  have k2 := Rg.Kp.alloc (w.alloc (.cells #[str s] 9)) (.cells #[.string ⟨#[32]⟩] 9) Rg.Nu
  have k3 := Rg.Kp.alloc ((w.alloc (.cells #[str s] 9)).alloc (.cells #[.string ⟨#[32]⟩] 9)) (.cells #[.int .i64 0] 3) Rg.Nu
  have x1 := heap_alloc_new w (.cells #[str s] 9)
  have x2 := heap_alloc_new (w.alloc (.cells #[str s] 9)) (.cells #[.string ⟨#[32]⟩] 9)
  have x3 := heap_alloc_new ((w.alloc (.cells #[str s] 9)).alloc (.cells #[.string ⟨#[32]⟩] 9)) (.cells #[.int .i64 0] 3)
  have HF := hide (And.intro ((k3.block _ (by simp; omega) (fun h => h)).trans ((k2.block _ (by simp) (fun h => h)).trans x1)) (And.intro ((k3.block _ (by simp) (fun h => h)).trans x2) (And.intro x3 ((k1.andNu k2).andNu k3))))
  clear k1 k2 k3 x1 x2 x3
  simp only [World.size_alloc] at HF
  unfold str at HF ⊢
  have SP : Calls Tryd.prog 80 #[.string ⟨s.toArray⟩, .string ⟨#[32]⟩, .int .i64 0] w fun e w' => e = .returned (.func (.func 101) #[] #[.pointer (some ⟨w.heap.size + 1, 0, none⟩), .pointer (some ⟨w.heap.size, 0, none⟩), .pointer (some ⟨w.heap.size + 2, 0, none⟩)]) ∧ w' = ((w.alloc (.cells #[.string ⟨s.toArray⟩] 9)).alloc (.cells #[.string ⟨#[32]⟩] 9)).alloc (.cells #[.int .i64 0] 3) := by
    go_enter Tryd.func80, Tryd.ntmps80
    go_wp2
    go_ret
    exact ⟨rfl, rfl⟩
  go_enter Tryd.func64, Tryd.ntmps64
  go_wp2_with fail
  refine SP.mono ?_; rintro e w' ⟨rfl, hw'⟩
  obtain rfl := hw'.symm
  go_wp2
  go_ret
  exact ⟨rfl, HF.out⟩
end Go.Proofs.YtffcnonhhfhlhaaDoor.Ws
