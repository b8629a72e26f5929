import Derived.Test.YtchealdgncgjoaaLtA
import Derived.Sort.QuietIn
namespace Go.Proofs.Ytchealdgncgjoaa.StI
open Go.RowKit Go.Proofs.Ytchealdgncgjoaa.St Go.Shelf Go.Sort Go.Proofs.Ytchealdgncgjoaa.It
attribute [local go_sem] Oper.semAt_some
set_option linter.unusedVariables false
theorem put_at {l : List Value} {d : List Deferred} {n : Nat} {v : Value} : Act.put { tmps := l.toArray, defers := d } (some n) v = { tmps := (l.set n v).toArray, defers := d } := by
  simp [Act.put]
/-- what a round of the caller's loop does, whatever becomes of the map -/
structure Lt (J : List Int → World → Prop) (X : World → Prop) (M : List Int) (mb l : Nat) : Prop where
  mm : ∀ pre W, J pre W → MmM mb W
  nu : ∀ pre W W', J pre W → Kp Nu W W' → J pre W'
  yd : ∀ pre (x : Int × Int) W1, J pre W1 → pre ++ [x.1] <+: M → VlM mb x W1 → ∀ m, YieldAt Fence.wide m Try.prog l #[.int .i64 x.1, .int .i64 x.2] W1 fun e W' =>
      (e = .returned (.bool true) ∧ J (pre ++ [x.1]) W' ∧ Kc KL W1 W') ∨ (e = .returned (.bool false) ∧ X W')
  gn : ∀ pre (x : Int × Int) W1, J pre W1 → pre ++ [x.1] <+: M → GnM mb x W1 → J (pre ++ [x.1]) W1
section
variable {J : List Int → World → Prop} {X : World → Prop} {M : List Int} {mb bm bt by_ l r0 : Nat} {t0 : T (Int × Int)}
set_option maxRecDepth 100000 in
set_option maxHeartbeats 1000000 in
/-- a node is visited, where the map's root is the walk's own -/
theorem visit_same (H : Lt J X M mb l) (n : Nat) (pre : List Int) (p : Int × Int) (an : Option Addr) (W : World) (hE : El W mb bm bt by_ l t0 r0) (hn : Nd W p an) (hp0 : p ∈ t0.xs) (hJ : J pre W) (hp : pre ++ [p.1] <+: M)
    (mm : W.heap[mb]? = some (.cells #[.func (.func 76) #[] #[], .pointer (some ⟨r0, 0, none⟩)] 130 (0, 0))) (hb : t0.bal) :
    CallsIn Fence.wide n Try.prog 154 #[.pointer an, .pointer (some ⟨bm, 0, none⟩), .pointer (some ⟨bt, 0, none⟩), .pointer (some ⟨by_, 0, none⟩)] W fun e W' =>
      (e = .returned (.bool true) ∧ J (pre ++ [p.1]) W' ∧ Kc KL W W') ∨ (e = .returned (.bool false) ∧ X W') := by
  have mixed : Try.prog.follows .mixedOrders = true := by kernel_rfl
  have hm : Mp W mb t0 := ⟨⟨_, mm, hE.tr⟩, hb, hE.st⟩
  obtain ⟨b, x2, x3, x4, x5, rfl, hb⟩ := hn
  obtain ⟨c0, c1, _⟩ := cell6 hb
  have d1 := cell1 hE.xm
  have d2 := cell1 hE.xt
  have d3 := cell1 hE.xy
  obtain ⟨d4, d5⟩ := cell2 mm
  have kd : Kp Nu W W.drew.drew := (Kp.refl Nu W).drew.drew
  have HJ2 : J pre W.drew.drew := H.nu _ _ _ hJ kd
  obtain ⟨fn, tmps, assign, body, hy, hR⟩ := H.yd pre p W.drew.drew HJ2 hp ⟨t0, hm.nu kd, (get_mem hE.st hp0).1⟩ (n - 1)
  have hq := fun V => eq128 V r0
  have HW := hide (kc_nu (K := KL) kd)
  refine callsIn_of_wp Try.func154 rfl trivial ?_ rfl
  simp only [Try.ntmps154, List.size_toArray, List.length_cons, List.length_nil, Nat.reduceAdd, Nat.reduceSub, Array.replicate_succ, Array.replicate_zero, List.push_toArray, List.append_toArray, List.nil_append, List.cons_append]
  clear hE hb hJ hp HJ2 hm kd mm hp0
  gi_wp2_with fail
  gi_region_o
  gi_wp2_with fail
  gi_region_with_o (refine ⟨fun h => (by cases h), hR.mono ?_⟩; rintro e W3 hh; obtain ⟨bb, rfl, HB⟩ := oneway hh; clear hh)
  all_goals gi_wp2
  all_goals go_ret
  all_goals (rcases HB.out with ⟨rfl, hJ4, hk3⟩ | ⟨rfl, hx⟩)
  all_goals first | exact .inl ⟨rfl, hJ4, HW.out.trans hk3⟩ | exact .inr ⟨rfl, hx⟩
set_option maxRecDepth 100000 in
set_option maxHeartbeats 3000000 in
/-- a node is visited, where the map has another root by now -/
theorem visit_gone (H : Lt J X M mb l) (n : Nat) (pre : List Int) (p : Int × Int) (an : Option Addr) (W : World) (hE : El W mb bm bt by_ l t0 r0) (hn : Nd W p an) (hJ : J pre W) (hp : pre ++ [p.1] <+: M)
    {t2 : T (Int × Int)} (hm : Mp W mb t2) (hs : t2.sz + 1 < 2 ^ 62) {a2 : Option Addr} (mm : W.heap[mb]? = some (.cells #[.func (.func 76) #[] #[], .pointer a2] 130 (0, 0)))
    (hq : ∀ V, Kp Nu W V → (binOp .eql 128 (.pointer a2) (.pointer (some ⟨r0, 0, none⟩))).run Try.prog V = .ok (.bool false) V) (hf : (T.fd (sd p.1) t2).2 = false) :
    CallsIn Fence.wide n Try.prog 154 #[.pointer an, .pointer (some ⟨bm, 0, none⟩), .pointer (some ⟨bt, 0, none⟩), .pointer (some ⟨by_, 0, none⟩)] W fun e W' =>
      (e = .returned (.bool true) ∧ J (pre ++ [p.1]) W' ∧ Kc KL W W') ∨ (e = .returned (.bool false) ∧ X W') := by
  have mixed : Try.prog.follows .mixedOrders = true := by kernel_rfl
  obtain ⟨b, x2, x3, x4, x5, rfl, hb⟩ := hn
  obtain ⟨c0, c1, _⟩ := cell6 hb
  have d1 := cell1 hE.xm
  have d2 := cell1 hE.xt
  have d3 := cell1 hE.xy
  obtain ⟨d4, d5⟩ := cell2 mm
  have hq0 := hq W (Kp.refl Nu W)
  have hq1 := hq W.drew (Kp.refl Nu W).drew
  have kd : Kp Nu W W.drew.drew := (Kp.refl Nu W).drew.drew
  have GA := get_any (hm.nu kd) p.1 hs
  have HKD := hide kd
  have HC : Hid (∀ V, Kp Nu W V → V.cell? ⟨by_, 0, none⟩ = some (.func (.yield l) #[] #[]) ∧ V.cell? ⟨b, 0, none⟩ = some (.int .i64 p.1)) := hide (fun V k => ⟨cell1 ((k.block _ (blk_lt hE.xy) (fun h => h)).trans hE.xy), (cell6 ((k.block _ (blk_lt hb) (fun h => h)).trans hb)).1⟩)
  have HJ := hide (And.intro hJ (And.intro hp (And.intro hm hE.st)))
  have eg : getT p.1 t2 = none := by unfold getT; rw [hf]; rfl
  rw [eg, hf] at GA
  simp only [ov] at GA
  have HF : Hid (∀ V, Kp Nu W V → J (pre ++ [p.1]) V ∧ Kc KL W V) := hide (fun V k => ⟨H.gn pre p V (H.nu _ _ _ HJ.out.1 k) HJ.out.2.1 ⟨t2, HJ.out.2.2.1.nu k, eg⟩, kc_nu k⟩)
  clear hE hb hJ hp hm kd mm hs hf eg hq H
  refine callsIn_of_wp Try.func154 rfl trivial ?_ rfl
  simp only [Try.ntmps154, List.size_toArray, List.length_cons, List.length_nil, Nat.reduceAdd, Nat.reduceSub, Array.replicate_succ, Array.replicate_zero, List.push_toArray, List.append_toArray, List.nil_append, List.cons_append]
  gi_wp2_with fail
  gi_region_o
  gi_wp2_with fail
  gi_cut [6, 7] from 24 (fun v t wr => v = .int .i64 0 ∧ t = .bool false ∧ Hid (Kp Nu W wr))
  case first =>
    gi_region_with_o (refine ⟨trivial, fun h => (by cases h), (callsIn_wide.2 GA).mono ?_⟩; rintro e W3 ⟨rfl, k3⟩; have KW := hide (HKD.out.andNu k3); clear k3)
    all_goals (try gi_wp2_with fail)
    all_goals gi_meet
    all_goals exact ⟨rfl, rfl, KW⟩
  case rest =>
    obtain ⟨rfl, rfl, hk⟩ := hcut
    gi_wp2_with fail
    refine wpIn_region_quiet_lit rfl (by kernel_rfl) (by kernel_rfl) ?_
    iterate 9 gi_big_quiet_step (fail)
    refine BigFrame.wpQuietIn_skip (fun _ _ _ _ => trivial) rfl ?_
    simp only [put_at, List.set_cons_succ, List.set_cons_zero]
    iterate 2 gi_big_quiet_step (fail)
    refine wpQuietIn_nil ?_
    intro _ hw'
    obtain ⟨nq, hw''⟩ := hw'
    subst hw''
    gi_wp2
    go_ret
    have hk2 : Kp Nu W (wc.drewN nq) := ⟨hk.out.os, hk.out.tape, hk.out.output, hk.out.size, hk.out.block⟩
    exact .inl ⟨rfl, (HF.out _ hk2).1, (HF.out _ hk2).2⟩
set_option maxRecDepth 100000 in
set_option maxHeartbeats 3000000 in
/-- a node is visited, where the map has another root by now -/
theorem visit_there (H : Lt J X M mb l) (n : Nat) (pre : List Int) (p : Int × Int) (an : Option Addr) (W : World) (hE : El W mb bm bt by_ l t0 r0) (hn : Nd W p an) (hJ : J pre W) (hp : pre ++ [p.1] <+: M)
    {t2 : T (Int × Int)} (hm : Mp W mb t2) (hs : t2.sz + 1 < 2 ^ 62) {a2 : Option Addr} (mm : W.heap[mb]? = some (.cells #[.func (.func 76) #[] #[], .pointer a2] 130 (0, 0)))
    (hq : ∀ V, Kp Nu W V → (binOp .eql 128 (.pointer a2) (.pointer (some ⟨r0, 0, none⟩))).run Try.prog V = .ok (.bool false) V) (hf : (T.fd (sd p.1) t2).2 = true) :
    CallsIn Fence.wide n Try.prog 154 #[.pointer an, .pointer (some ⟨bm, 0, none⟩), .pointer (some ⟨bt, 0, none⟩), .pointer (some ⟨by_, 0, none⟩)] W fun e W' =>
      (e = .returned (.bool true) ∧ J (pre ++ [p.1]) W' ∧ Kc KL W W') ∨ (e = .returned (.bool false) ∧ X W') := by
  have mixed : Try.prog.follows .mixedOrders = true := by kernel_rfl
  obtain ⟨b, x2, x3, x4, x5, rfl, hb⟩ := hn
  obtain ⟨c0, c1, _⟩ := cell6 hb
  have d1 := cell1 hE.xm
  have d2 := cell1 hE.xt
  have d3 := cell1 hE.xy
  obtain ⟨d4, d5⟩ := cell2 mm
  have hq0 := hq W (Kp.refl Nu W)
  have hq1 := hq W.drew (Kp.refl Nu W).drew
  have kd : Kp Nu W W.drew.drew := (Kp.refl Nu W).drew.drew
  have GA := get_any (hm.nu kd) p.1 hs
  have HKD := hide kd
  have HC : Hid (∀ V, Kp Nu W V → V.cell? ⟨by_, 0, none⟩ = some (.func (.yield l) #[] #[]) ∧ V.cell? ⟨b, 0, none⟩ = some (.int .i64 p.1)) := hide (fun V k => ⟨cell1 ((k.block _ (blk_lt hE.xy) (fun h => h)).trans hE.xy), (cell6 ((k.block _ (blk_lt hb) (fun h => h)).trans hb)).1⟩)
  have HJ := hide (And.intro hJ (And.intro hp (And.intro hm hE.st)))
  obtain ⟨q, hq2, eg⟩ := getT_some hf
  obtain ⟨ek, _⟩ := get_key hm.srt eg
  have eq : q = (p.1, q.2) := Prod.ext ek rfl
  rw [eg, hf] at GA
  simp only [ov] at GA
  generalize q.2 = v2 at GA eq
  rw [eq] at eg
  have HY : Hid (∀ V, Kp Nu W V → ∀ m, YieldAt Fence.wide m Try.prog l #[.int .i64 p.1, .int .i64 v2] V fun e W' => (e = .returned (.bool true) ∧ J (pre ++ [p.1]) W' ∧ Kc KL V W') ∨ (e = .returned (.bool false) ∧ X W')) :=
    hide (fun V k m => H.yd pre (p.1, v2) V (H.nu _ _ _ HJ.out.1 k) HJ.out.2.1 ⟨t2, HJ.out.2.2.1.nu k, eg⟩ m)
  clear hE hb hJ hp hm kd mm hs hf eg hq H hq2 ek eq
  refine callsIn_of_wp Try.func154 rfl trivial ?_ rfl
  simp only [Try.ntmps154, List.size_toArray, List.length_cons, List.length_nil, Nat.reduceAdd, Nat.reduceSub, Array.replicate_succ, Array.replicate_zero, List.push_toArray, List.append_toArray, List.nil_append, List.cons_append]
  gi_wp2_with fail
  gi_region_o
  gi_wp2_with fail
  gi_cut [6, 7] from 24 (fun v t wr => v = .int .i64 v2 ∧ t = .bool true ∧ Hid (Kp Nu W wr))
  case first =>
    gi_region_with_o (refine ⟨trivial, fun h => (by cases h), (callsIn_wide.2 GA).mono ?_⟩; rintro e W3 ⟨rfl, k3⟩; have KW := hide (HKD.out.andNu k3); clear k3)
    all_goals (try gi_wp2_with fail)
    all_goals gi_meet
    all_goals exact ⟨rfl, rfl, KW⟩
  case rest =>
    obtain ⟨rfl, rfl, hk⟩ := hcut
    obtain ⟨e1, e2⟩ := HC.out _ hk.out
    obtain ⟨e3, e4⟩ := HC.out _ hk.out.drew
    obtain ⟨fn, tmps, assign, body, hy, hR⟩ := HY.out wc.drew hk.out.drew (n - 1)
    have HW := hide (kc_nu (K := KL) hk.out.drew)
    clear HY HC HKD GA HJ hk c0 c1 d1 d2 d3 d4 d5
    gi_wp2_with fail
    gi_region_with_o (refine ⟨fun h => (by cases h), hR.mono ?_⟩; rintro e W3 hh; obtain ⟨bb, rfl, HB⟩ := oneway hh; clear hh)
    all_goals gi_wp2
    all_goals go_ret
    all_goals (rcases HB.out with ⟨rfl, hJ4, hk3⟩ | ⟨rfl, hx⟩)
    all_goals first | exact .inl ⟨rfl, hJ4, HW.out.trans hk3⟩ | exact .inr ⟨rfl, hx⟩
/-- a node is visited -/
theorem visit_l (H : Lt J X M mb l) (n : Nat) (pre : List Int) (p : Int × Int) (an : Option Addr) (W : World) (hE : El W mb bm bt by_ l t0 r0) (hn : Nd W p an) (hp0 : p ∈ t0.xs) (hJ : J pre W) (hp : pre ++ [p.1] <+: M) :
    CallsIn Fence.wide n Try.prog 154 #[.pointer an, .pointer (some ⟨bm, 0, none⟩), .pointer (some ⟨bt, 0, none⟩), .pointer (some ⟨by_, 0, none⟩)] W fun e W' =>
      (e = .returned (.bool true) ∧ J (pre ++ [p.1]) W' ∧ Kc KL W W') ∨ (e = .returned (.bool false) ∧ X W') := by
  obtain ⟨t2, hm, hs⟩ := H.mm _ _ hJ
  obtain ⟨a2, mm, ht2⟩ := hm.ex
  by_cases e : a2 = some ⟨r0, 0, none⟩
  · subst e
    obtain rfl := ht2.det hE.tr
    exact visit_same H n pre p an W hE hn hp0 hJ hp mm hm.bal
  · have hq : ∀ V, Kp Nu W V → (binOp .eql 128 (.pointer a2) (.pointer (some ⟨r0, 0, none⟩))).run Try.prog V = .ok (.bool false) V := fun V k => by
      have hE2 := hE.tr
      cases t2 with
      | nil =>
        rw [show a2 = none from ht2]
        exact nn128
      | node x q y =>
        obtain ⟨b, al, ar, ea, hb, _, _⟩ := ht2
        cases t0 with
        | nil => cases (show (some ⟨r0, 0, none⟩ : Option Addr) = none from hE2)
        | node x0 q0 y0 =>
          obtain ⟨b0, al0, ar0, ea0, hb0, _, _⟩ := hE2
          cases ea0
          subst ea
          exact ne128 (fun e2 => e (by rw [e2])) ((k.block _ (blk_lt hb) (fun h => h)).trans hb) ((k.block _ (blk_lt hb0) (fun h => h)).trans hb0)
    cases hf : (T.fd (sd p.1) t2).2 with
    | false => exact visit_gone H n pre p an W hE hn hJ hp hm hs mm hq hf
    | true => exact visit_there H n pre p an W hE hn hJ hp hm hs mm hq hf
end
end Go.Proofs.Ytchealdgncgjoaa.StI
