import Derived.Test.YtchealdgncgjoaaNlA
import Derived.Deep.OwnRows
namespace Go.Proofs.Ytchealdgncgjoaa.StI
open Go.RowKit Go.Proofs.Ytchealdgncgjoaa.St Go.Shelf Go.Sort Go.Proofs.Ytchealdgncgjoaa.It
attribute [local go_sem] Oper.semAt_some
set_option linter.unusedVariables false

theorem all_seqnil (bx : Nat) (w : World) (hb : w.heap[bx]? = some (.cells #[.pointer none] 22 (0, 0))) :
    SeqO Try.prog 82 #[.pointer (some ⟨bx, 0, none⟩)] (fun x : Int × Int => #[.int .i64 x.1, .int .i64 x.2]) (fun _ _ => True) (fun ys => ys = []) (fun pre => pre = []) 0 w := fun n l J Jx W hW hJ hJx hY h0 => by
  refine (callsIn_wide (n := n)).2 ?_
  refine (all1_nil W l bx ((hW.block bx (blk_lt hb)).trans hb)).mono ?_
  rintro e W' ⟨hv, hk⟩
  exact ⟨hv, .inl ⟨[], rfl, hJ _ _ _ none h0 (grown_nu hk) (fun r e => by cases e)⟩⟩

theorem info3 : (Try.prog.info? 3).map (fun i => (i.zero, i.size, i.bytes)) = some (some (.int .i64 0), 1, 8) := by kernel_rfl
set_option maxRecDepth 100000 in
set_option maxHeartbeats 1000000 in
theorem collect_nil (w : World) : Calls Try.prog 59 #[.pointer none] w fun e w' => ∃ a1 a2 c1 c2, e = .returned (.tuple #[.slice a1 0 c1, .slice a2 0 c2]) ∧ Kp Nu w w' := by
  have LN := len_nil
  have AL := all_nil
  have hmk : ∀ W : World, (Instr.makeSlice 47 (.int .i64 0) (.int .i64 0)).run Try.prog W = .ok (.slice (some ⟨W.heap.size, 0, none⟩) 0 0) (W.alloc (.cells (madeCells #[.int .i64 0] 0) 3)) := fun W => run_make_row' (P := Try.prog) 47 3 (.int .i64 0) 8 Try.underlying47 info3 rfl .i64 .i64 0 (by omega) (by omega) W
  refine (callsIn_wide (n := 4)).1 ?_
  refine callsIn_of_wp_marks Try.func59 rfl trivial ?_ rfl
  simp only [Try.ntmps59, List.size_toArray, List.length_cons, List.length_nil, Nat.reduceAdd, Nat.reduceSub, Array.replicate_succ, Array.replicate_zero, List.push_toArray, List.append_toArray, List.nil_append, List.cons_append]
  gi_wp2_with fail
  refine ⟨trivial, (callsIn_wide.2 (LN _)).mono ?_⟩
  rintro e w' ⟨rfl, hw⟩; obtain rfl := hw.symm
  gi_wp2_with fail
  refine ⟨trivial, (callsIn_wide.2 (LN _)).mono ?_⟩
  rintro e w' ⟨rfl, hw⟩; obtain rfl := hw.symm
  gi_wp2_with fail
  refine ⟨trivial, (callsIn_wide.2 (AL _)).mono ?_⟩
  rintro e w4 ⟨rfl, hb4, k4⟩
  have KW : Kp Nu w ((((w.alloc (.cells (madeCells #[.int .i64 0] 0) 3)).alloc (.cells #[.slice (some ⟨w.heap.size, 0, none⟩) 0 0] 47)).alloc (.cells (madeCells #[.int .i64 0] 0) 3)).alloc (.cells #[.slice (some ⟨w.heap.size + 1 + 1, 0, none⟩) 0 0] 47)) := (((Kp.alloc w _ Nu).andAlloc _).andAlloc _).andAlloc _
  have g1 : ((((w.alloc (.cells (madeCells #[.int .i64 0] 0) 3)).alloc (.cells #[.slice (some ⟨w.heap.size, 0, none⟩) 0 0] 47)).alloc (.cells (madeCells #[.int .i64 0] 0) 3)).alloc (.cells #[.slice (some ⟨w.heap.size + 1 + 1, 0, none⟩) 0 0] 47)).heap[w.heap.size + 1]? = some (.cells #[.slice (some ⟨w.heap.size, 0, none⟩) 0 0] 47 (0, 0)) :=
    (Below.heap_alloc _ _ _ (by simp)).trans ((Below.heap_alloc _ _ _ (by simp)).trans (by have := heap_alloc_new (w.alloc (.cells (madeCells #[.int .i64 0] 0) 3)) (.cells #[.slice (some ⟨w.heap.size, 0, none⟩) 0 0] 47); simpa using this))
  have g3 : ((((w.alloc (.cells (madeCells #[.int .i64 0] 0) 3)).alloc (.cells #[.slice (some ⟨w.heap.size, 0, none⟩) 0 0] 47)).alloc (.cells (madeCells #[.int .i64 0] 0) 3)).alloc (.cells #[.slice (some ⟨w.heap.size + 1 + 1, 0, none⟩) 0 0] 47)).heap[w.heap.size + 1 + 1 + 1]? = some (.cells #[.slice (some ⟨w.heap.size + 1 + 1, 0, none⟩) 0 0] 47 (0, 0)) := by
    have := heap_alloc_new (((w.alloc (.cells (madeCells #[.int .i64 0] 0) 3)).alloc (.cells #[.slice (some ⟨w.heap.size, 0, none⟩) 0 0] 47)).alloc (.cells (madeCells #[.int .i64 0] 0) 3)) (.cells #[.slice (some ⟨w.heap.size + 1 + 1, 0, none⟩) 0 0] 47)
    simpa using this
  generalize ((((w.alloc (.cells (madeCells #[.int .i64 0] 0) 3)).alloc (.cells #[.slice (some ⟨w.heap.size, 0, none⟩) 0 0] 47)).alloc (.cells (madeCells #[.int .i64 0] 0) 3)).alloc (.cells #[.slice (some ⟨w.heap.size + 1 + 1, 0, none⟩) 0 0] 47)) = w3 at *
  have h1 := (k4.block _ (blk_lt g1) (fun h => h)).trans g1
  have h3 := (k4.block _ (blk_lt g3) (fun h => h)).trans g3
  have K4 := KW.andNu k4
  have SQ := all_seqnil w3.heap.size w4 hb4
  generalize w3.heap.size = bx at *
  have hs0 := K4.size
  clear g1 g3 KW k4 hb4 LN AL hmk
  gi_wp2_with fail
  refine range_o (gf := 82) rfl (enters_of Try.func82 (by kernel_rfl) rfl) SQ (Below.refl _ _) (fun _ => rfl)
    (fun pre V => (V.heap[w.heap.size + 1]? = some (.cells #[.slice (some ⟨w.heap.size, 0, none⟩) 0 0] 47 (0, 0)) ∧ V.heap[w.heap.size + 1 + 1 + 1]? = some (.cells #[.slice (some ⟨w.heap.size + 1 + 1, 0, none⟩) 0 0] 47 (0, 0))) ∧ Below w.heap.size w V) (fun _ _ _ => False)
    (OwnFrom.and (fun pre X Z row hs hg hr => ⟨own_cells (β := Unit) w4.heap.size _ _ _ _ () X Z row hs.1 hg hr, own_cells (β := Unit) w4.heap.size _ _ _ _ () X Z row hs.2 hg hr⟩) (ownFrom_below (Nat.le_refl _) (by omega))) (fun _ _ _ _ _ hs _ _ => hs) ⟨⟨h1, h3⟩, K4.toBelow⟩
    (fun x a' V => True) (fun x a' _ X Z row hs hg hr => trivial)
    ?assign1 ?body1 ?done1 (fun _ _ _ _ _ _ h _ => h.elim)
  case assign1 =>
    rintro l' pre x V K hI hK
    have HI := hide hI
    clear hI
    gi_wp2
    exact hK _ _ (kf_nu _ (Kp.refl _ _)) (kc_nu (Kp.refl _ _)) HI.out trivial
  case body1 =>
    rintro l' pre x a' V hl' hq hI hA hlt
    exact absurd hlt (Nat.not_lt_zero _)
  case done1 =>
    rintro D ys V hD rfl ⟨⟨hA, hB⟩, hBe⟩ hK
    have c1 := cell1 hA
    have c3 := cell1 hB
    clear h1 h3 SQ
    have HF : Hid (Kp Nu w (V.drew.putObj D (.deferred none))) := Kp.of_below (hBe.drew.trans (belowK_b (w := w) (Nat.le_refl _) V.drew D _ _ (by omega) hK rfl rfl))
    have hK' : V.drew.heap[D]? = some (.deferred (some [])) := hK
    have mixed : Try.prog.follows .mixedOrders = true := by kernel_rfl
    gi_wp2_with fail
    rename_i Kx hKx
    refine wp_calm (wpIn_wide.2 ?_)
    go_region
    all_goals refine hKx _ _ ?_
    all_goals gi_wp2
    all_goals refine ⟨by simp, .inl ⟨_, _, rfl, run_takeDeferred hK', ?_⟩⟩
    all_goals refine ⟨.tuple #[.slice (some ⟨w.heap.size, 0, none⟩) 0 0, .slice (some ⟨w.heap.size + 1 + 1, 0, none⟩) 0 0], ?_, _, _, _, _, rfl, HF.out⟩
    all_goals simp [results, Try.results59, go_sem]
end Go.Proofs.Ytchealdgncgjoaa.StI
namespace Go.Proofs.Ytchealdgncgjoaa.StI
open Go.RowKit Go.Proofs.Ytchealdgncgjoaa.St
set_option linter.unusedVariables false

theorem put_first {w : World} {mb : Nat} (h : Mp w mb .nil) (k v : Int) :
    Calls Try.prog 17 #[.pointer (some ⟨mb, 0, none⟩), .int .i64 k, .int .i64 v] w fun e w' => e = .returned (.tuple #[.int .i64 0, .bool false]) ∧ Mp w' mb (.node .nil (k, v) .nil) ∧ Kp (fun i => i = mb) w w' := by
  refine (put_any h k v (by simp [T.sz])).mono ?_
  rintro e w' ⟨e1, e2, e3⟩
  exact ⟨e1, e2, e3⟩
theorem get_first {w : World} {mb : Nat} {k v : Int} (h : Mp w mb (.node .nil (k, v) .nil)) :
    Calls Try.prog 56 #[.pointer (some ⟨mb, 0, none⟩), .int .i64 k] w fun e w' => e = .returned (.tuple #[.int .i64 v, .bool true]) ∧ Kp Nu w w' := by
  refine (get_any h k (by simp [T.sz])).mono ?_
  rintro e w' ⟨e1, e2⟩
  have hc : cmpI k k = 0 := cmpI_ord.zero k
  have hf : T.fd (sd k) (.node .nil (k, v) .nil) = (0, true) := by
    simp [T.fd, sd, side, hc, T.sz]
  rw [hf] at e1
  have hg : getT k (.node .nil (k, v) .nil) = some (k, v) := by unfold getT; rw [hf]; rfl
  rw [hg] at e1
  exact ⟨e1, e2⟩

set_option maxRecDepth 100000 in
set_option maxHeartbeats 2000000 in
theorem nil_walk (w : World) (k v : Int) : Calls Try.prog 11 #[.int .i64 k, .int .i64 v] w fun e w' => e = .returned (.bool true) ∧ Kp Nu w w' := by
  have NM := newMap_nil w
  have NA := new_any w
  have PN := fun W => put_nil W k v
  have GN := fun W => get_nil W k
  have DN := fun W => del_nil W k
  have AN := At_nil
  have FN := fun W => floor_nil W k
  have CN := fun W => ceil_nil W k
  have ON := collect_nil
  have KN := clone_nil
  have LN := len_nil
  have HN := height_nil
  have RN := fun W => rank_nil W k
  go_enter Try.func11, Try.ntmps11
  go_wp2_with (first
    | (go_at_call 55; refine NM.mono ?_; rintro e w' ⟨rfl, hw⟩; obtain rfl := hw.symm)
    | (go_at_call 16; refine NA.mono ?_; rintro e w1 ⟨rfl, hm1, k1⟩; have PF := put_first hm1 k v)
    | (go_at_call 17; refine PF.mono ?_; rintro e w2 ⟨rfl, hm2, k2⟩; have GF := get_first hm2; clear PF)
    | (go_at_call 56; refine GF.mono ?_; rintro e w3 ⟨rfl, k3⟩; clear GF)
    | (go_at_call 17; refine (PN _).mono ?_; rintro e w' ⟨rfl, hw⟩; obtain rfl := hw.symm)
    | (go_at_call 56; refine (GN _).mono ?_; rintro e w' ⟨rfl, hw⟩; obtain rfl := hw.symm)
    | (go_at_call 24; refine (DN _).mono ?_; rintro e w' ⟨rfl, hw⟩; obtain rfl := hw.symm)
    | (go_at_call 23; refine (AN _).mono ?_; rintro e w' ⟨rfl, hw⟩; obtain rfl := hw.symm)
    | (go_at_call 57; refine (FN _).mono ?_; rintro e w' ⟨rfl, hw⟩; obtain rfl := hw.symm)
    | (go_at_call 58; refine (CN _).mono ?_; rintro e w' ⟨rfl, hw⟩; obtain rfl := hw.symm)
    | (go_at_call 59; refine (ON _).mono ?_; rintro e w4 ⟨s1, s2, q1, q2, rfl, k4⟩)
    | (go_at_call 60; refine (KN _).mono ?_; rintro e w' ⟨rfl, hw⟩; obtain rfl := hw.symm)
    | (go_at_call 21; refine (LN _).mono ?_; rintro e w' ⟨rfl, hw⟩; obtain rfl := hw.symm)
    | (go_at_call 22; refine (HN _).mono ?_; rintro e w' ⟨rfl, hw⟩; obtain rfl := hw.symm)
    | (go_at_call 61; refine (RN _).mono ?_; rintro e w' ⟨rfl, hw⟩; obtain rfl := hw.symm))
  go_ret
  refine ⟨rfl, ?_⟩
  exact ((k1.trans k2 (fun i hi e => by have e : i = w.heap.size := e; omega)).andNu k3).andNu k4
end Go.Proofs.Ytchealdgncgjoaa.StI
