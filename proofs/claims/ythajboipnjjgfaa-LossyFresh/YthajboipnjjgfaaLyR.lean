import Derived.Test.YthajboipnjjgfaaLyO
namespace Go.Proofs.Ythajboipnjjgfaa.Ly
open Go.RowKit Go.Maps
set_option linter.unusedVariables false

section
variable {B b bm nb : Nat} {w w' : World} {room : Int} {D D' : DataW Unit} {v : Value} {c : Ct} {L : List Gm}

/-- the map of the blocked links has turned -/
theorem Nt.turned {W : World} {nb' : Nat} (h : Nt B w b bm nb room D v c L) (hm : W.ownsMap Try.prog 86 unitElem bm nb' D') (ht : w.mapTurned W bm) : Nt B W b bm nb' room D' v c L ∧ Fr b bm v w W v := by
  have hg := ht.grown
  have k : Kp (fun i => i = bm) w W := (Kp.of_grown hg).mono (fun i _ e => by simpa using e)
  refine ⟨⟨(k.block b (blk_lt h.blk) (fun e => h.ne_bm e.symm)).trans h.blk, hm, own_keep h.own (fun g hg' => k.block g (own_lt h.own hg') (h.ne_own hg').2), fun g hg' => (h.dat g hg').keep (fun i cur hi => k.block i (blk_lt hi) (fun e => h.byte hi (.inr (.inl e)))), h.hb, h.hm, h.r0, h.r1, h.len⟩, ⟨k.mono (fun i _ e => .inr (.inl e)), .inl rfl⟩⟩

theorem Nt.nt_of {W : World} {nb' : Nat} (h : Nt B w b bm nb room D v c L) (k : Kp (fun i => i = bm) w W) (hm : W.ownsMap Try.prog 86 unitElem bm nb' D') : Nt B W b bm nb' room D' v c L :=
  ⟨(k.block b (blk_lt h.blk) (fun e => h.ne_bm e.symm)).trans h.blk, hm, own_keep h.own (fun g hg' => k.block g (own_lt h.own hg') (h.ne_own hg').2), fun g hg' => (h.dat g hg').keep (fun i cur hi => k.block i (blk_lt hi) (fun e => h.byte hi (.inr (.inl e)))), h.hb, h.hm, h.r0, h.r1, h.len⟩

set_option maxHeartbeats 400000 in
theorem block_any (h : Nt B w b bm nb room D v c L) (f t : Int) (f0 : 0 ≤ f) (f1 : f < 256) (t0 : 0 ≤ t) (t1 : t < 256) (hn : nb < maxLen) :
    Calls Try.prog 35 #[.pointer (some ⟨b, 0, none⟩), .int .u8 f, .int .u8 t] w fun e w' => e = .returned (.int .i64 0) ∧ Nt B w' b bm (nb + 1) room (D.put (lk f t) (.agg [])) v c L ∧ Fr b bm v w w' v := by
  have MA := made_any h
  have c2 := h.c2
  have hkey := key_lk f0 f1 t0 t1
  have hmap := h.map
  have HH := hide h
  have HN := hide hn
  clear h hn
  go_enter Try.func35, Try.ntmps35
  go_wp2_with fail
  refine MA.mono ?_; rintro e w2 ⟨rfl, hw2⟩
  obtain rfl := hw2.symm
  clear MA hw2
  go_wp2_with (first | (at_mapUpdate; refine wpList_mapUpdate_in _ rfl _ _ _ 75 rfl 86 92 keyed Try.underlying75 unitElem bm nb D rfl hmap HN.out _ _ _ rfl rfl hkey (.agg []) [] unitElem_mk ?_; intro w3 hown3 hturn3) | go_in)
  go_ret
  exact ⟨rfl, HH.out.turned hown3 hturn3⟩

theorem clear_map {nb : Nat} (h : w.ownsMap Try.prog 86 unitElem bm nb D) : ∃ W, (∀ ty, (Builtin.clear_ #[75] ty #[.map (some bm)]).run Try.prog w = .ok (.tuple #[]) W) ∧ W.ownsMap Try.prog 86 unitElem bm 0 (.map [] : DataW Unit) ∧ w.mapTurned W bm := by
  obtain ⟨es, clock, hb, F, hn, hD⟩ := h
  refine ⟨ChangeMaps.setBlock w bm (.map #[] clock), fun ty => ?_, ⟨#[], clock, ChangeMaps.heap_setBlock_same hb _, ?_, Nat.le_refl _, rfl⟩, ⟨es, clock, #[], clock, hb, rfl⟩⟩
  · simp [Builtin.clear_, run_underlying Try.underlying75, MapKept.run_getObj_map hb, MapKept.run_setObj_map _ hb, Result.andThen]
    rfl
  · exact ⟨by simp, MapKept.stamped_empty clock, by simp⟩

set_option maxHeartbeats 400000 in
theorem heal_all (h : Nt B w b bm nb room D v c L) :
    Calls Try.prog 33 #[.pointer (some ⟨b, 0, none⟩), .int .i64 (-1), .int .i64 (-1)] w fun e w' => e = .returned (.int .i64 (Maps.size D : Int)) ∧ Nt B w' b bm 0 room (.map []) v c L ∧ Fr b bm v w w' v := by
  have MA := made_any h
  have c2 := h.c2
  have hmap := h.map
  obtain ⟨W, hcl, hW, ht⟩ := clear_map h.map
  have HF := hide (h.turned hW ht)
  have hq : ((-1 : Int) == -1) = true := by decide
  clear h ht hW
  go_enter Try.func33, Try.ntmps33
  go_wp2_with fail
  refine MA.mono ?_; rintro e w2 ⟨rfl, hw2⟩
  obtain rfl := hw2.symm
  clear MA hw2
  go_wp2_with (first | (at_len; refine wpList_len_own _ rfl _ 75 rfl 86 92 Try.underlying75 unitElem bm nb D rfl hmap ?_) | go_in)
  go_ret
  exact ⟨rfl, HF.out⟩

theorem lk_inj {f t f' t' : Int} (f0 : 0 ≤ f) (f1 : f < 256) (t0 : 0 ≤ t) (t1 : t < 256) (f0' : 0 ≤ f') (f1' : f' < 256) (t0' : 0 ≤ t') (t1' : t' < 256) (h : lk f t = lk f' t') : f = f' ∧ t = t' := by
  have := keyed.inj (key_lk f0 f1 t0 t1) (by rw [h]; exact key_lk f0' f1' t0' t1')
  simpa using this
theorem lk_same (f t : Int) : (lk f t).sameKey (lk f t) = true := by simp [lk, Lit.sameKey]

/-- what is blocked while links are opened -/
def Hl (n m : Int) (D0 D : DataW Unit) (left : Lit → Bool) : Prop :=
  ∀ f t, 0 ≤ f → f < 256 → 0 ≤ t → t < 256 → Maps.has D (lk f t) = (Maps.has D0 (lk f t) && (left (lk f t) || !(stF n f && stF m t)))
theorem Hl.start (n m : Int) (D : DataW Unit) : Hl n m D D (Maps.has D) := by
  intro f t _ _ _ _
  cases Maps.has D (lk f t) <;> simp
theorem Hl.struck {n m : Int} {D0 D : DataW Unit} {left : Lit → Bool} (h : Hl n m D0 D left) {f t : Int} (f0 : 0 ≤ f) (f1 : f < 256) (t0 : 0 ≤ t) (t1 : t < 256) (hf : (stF n f && stF m t) = true) : Hl n m D0 (D.del (lk f t)) (fun z => left z && !z.sameKey (lk f t)) := by
  intro f' t' g0 g1 u0 u1
  by_cases e : lk f' t' = lk f t
  · obtain ⟨rfl, rfl⟩ := lk_inj g0 g1 u0 u1 f0 f1 t0 t1 e
    simp [has_del_same, lk_same, hf]
  · simp [has_del_other e, h f' t' g0 g1 u0 u1, sameKey_ne e]
theorem Hl.stays {n m : Int} {D0 D : DataW Unit} {left : Lit → Bool} (h : Hl n m D0 D left) {f t : Int} (f0 : 0 ≤ f) (f1 : f < 256) (t0 : 0 ≤ t) (t1 : t < 256) (hf : (stF n f && stF m t) = false) : Hl n m D0 D (fun z => left z && !z.sameKey (lk f t)) := by
  intro f' t' g0 g1 u0 u1
  by_cases e : lk f' t' = lk f t
  · obtain ⟨rfl, rfl⟩ := lk_inj g0 g1 u0 u1 f0 f1 t0 t1 e
    simp [h f' t' g0 g1 u0 u1, hf]
  · simp [h f' t' g0 g1 u0 u1, sameKey_ne e]
/-- what is blocked behind a Heal -/
def Hd (n m : Int) (D0 D : DataW Unit) : Prop := ∀ f t, 0 ≤ f → f < 256 → 0 ≤ t → t < 256 → bar D f t = (bar D0 f t && !(stF n f && stF m t))
theorem Hl.done {n m : Int} {D0 D : DataW Unit} {left : Lit → Bool} (h : Hl n m D0 D left) (hl : ∀ k, left k = false) : Hd n m D0 D := by
  intro f t g0 g1 u0 u1
  have := h f t g0 g1 u0 u1
  rw [hl] at this
  simpa [bar] using this

theorem Kp.grown {w w' : World} (k : Kp Nu w w') : w.grownBy w' none := ⟨k.os, k.tape, k.output, k.size, fun i hi _ => k.block i hi (fun h => h)⟩
/-- a delete whose run is known, in a region that draws -/
theorem step_delete_run {P : Program} {ops : Array Oper} {o : Oper} {a : Act} {w : World} {K : Act → World → Prop} {Q : Exit → Act → World → Prop} {E : Prop}
    (hg : o.guard = none) (s x : Operand) (t u : TypeId) (hop : o.op = Op.call { callee := Callee.builtin Builtin.delete, args := #[s, x], argTypes := #[t, u] })
    (v y : Value) (hs : a.eval s = v) (hx : a.eval x = y) (v' : Value) (w' : World) (hrun : (Builtin.delete_ #[t, u] o.type #[v, y]).run P w = .ok v' w')
    (hK : K (a.put o.dst v') w') : if Region.wanted o (yielded ops a.tmps) = true then Oper.wp P o a w K Q else E := by
  have hw : Region.wanted o (yielded ops a.tmps) = true := by simp [Region.wanted, hg]
  rw [if_pos hw]
  unfold Oper.wp execOp
  simp only [hop, resolve, invoke, builtin, Sem.run_bind, Sem.run_pure, Result.andThen_ok, List.map_toArray, List.map_cons, List.map_nil, hs, hx, hrun]
  exact hK

/-- the step of a range over the links -/
theorem next_links (w : World) {ops : Array Oper} {rest : List Oper} {o : Oper} {a : Act} {Q : Exit → Act → World → Prop} (hg : o.guard = none) (it : Operand) (hop : o.op = Op.next it false) (b r n : Nat) (D : DataW Unit) (left : Lit → Bool) (cnt : Nat)
    (hit : a.eval it = .pointer (some ⟨r, 0, none⟩)) (h : w.ranges Try.prog 86 unitElem b r n D left cnt)
    (hDone : (∀ kl, left kl = false) → wpList Try.prog ops Q rest (a.put o.dst (.tuple #[.bool false])) w)
    (hMore : ∀ (f t : Int) (w' : World) (cnt' : Nat), 0 ≤ f → f < 256 → 0 ≤ t → t < 256 → w'.ranges Try.prog 86 unitElem b r n D (fun z => left z && !z.sameKey (lk f t)) cnt' → cnt' < cnt →
      w.grownBy w' (some r) → (Instr.entry (.pointer (some ⟨r, 0, none⟩))).run Try.prog w' = .ok (.tuple #[.agg #[.int .u8 f, .int .u8 t], .agg #[]]) w' → wpList Try.prog ops Q rest (a.put o.dst (.tuple #[.bool true, .agg #[.int .u8 f, .int .u8 t], .agg #[]])) w') :
    wpList Try.prog ops Q (o :: rest) a w := by
  refine wpList_next_ranges w hg it hop 86 keyed unitElem (α := Int × Int) (β := Unit) (fun p => .agg #[.int .u8 p.1, .int .u8 p.2]) (fun _ => .agg #[]) (fun key kl hk => by obtain ⟨f, t, e, _⟩ := lk_inv hk; exact ⟨(f, t), e⟩) (fun v y hv => ⟨(), (unitElem_inv hv).1⟩) b r n D left cnt hit h (fun _ hl => hDone hl) ?_
  rintro ⟨f, t⟩ u kl y w' cnt' hkey hlx hv hat hrg1 hlt hg1 hsz1 hen
  obtain ⟨f', t', e, rfl, f0, f1, t0, t1⟩ := lk_inv hkey
  obtain ⟨rfl, rfl⟩ : f = f' ∧ t = t' := by simpa using e
  exact hMore f t w' cnt' f0 f1 t0 t1 hrg1 hlt hg1 hen

set_option maxRecDepth 100000 in
set_option maxHeartbeats 1000000 in
theorem heal_some (h : Nt B w b bm nb room D v c L) (n m : Int) (hnm : ¬ (n = -1 ∧ m = -1)) (hnb : (nb : Int) ≤ 4611686018427387000) :
    Calls Try.prog 33 #[.pointer (some ⟨b, 0, none⟩), .int .i64 n, .int .i64 m] w fun e w' => ∃ D', e = .returned (.int .i64 ((Maps.size D : Int) - (Maps.size D' : Int))) ∧ Hd n m D D' ∧ Nt B w' b bm nb room D' v c L ∧ Fr b bm v w w' v := by
  have MA := made_any h
  have c2 := h.c2
  have hmap := h.map
  have hs1 : (Maps.size D : Int) ≤ 4611686018427387000 := by have := h.map.size_le; omega
  have hs0 : (0 : Int) ≤ (Maps.size D : Int) := by omega
  have HH := hide h
  have HN := hide hnb
  have hq : (n == -1 && m == -1) = false := by
    cases hn : (n == -1) <;> cases hm : (m == -1) <;> simp_all
  clear h hnb hnm
  have hc : (n == -1) = false ∨ ((n == -1) = true ∧ (m == -1) = false) := by
    cases hn : (n == -1) <;> cases hm : (m == -1) <;> simp_all
  clear hq
  rcases hc with hn | ⟨hn, hm⟩
  · go_enter Try.func33, Try.ntmps33
    go_wp2_with fail
    refine MA.mono ?_; rintro e w2 ⟨rfl, hw2⟩
    obtain rfl := hw2.symm
    clear MA hw2
    go_wp2_with (first | (at_len; refine wpList_len_own _ rfl _ 75 rfl 86 92 Try.underlying75 unitElem bm nb D rfl hmap ?_) | (at_range; refine wpList_range_own _ rfl _ 75 rfl 86 92 keyed Try.underlying75 _ bm nb _ rfl hmap ?_; intro w0 hrg0 hg0 hs0') | go_in)
    go_frame
    go_loopw [33] (fun _ wr => ∃ (left : Lit → Bool) (cnt : Nat) (Dc : DataW Unit), wr.ranges Try.prog 86 unitElem bm w.heap.size nb Dc left cnt ∧ Hid (Hl n m D Dc left) ∧ Kp (fun i => i = bm) w wr) (fun _ wr => wr.rangeLeft bm w.heap.size)
    case atStart => exact ⟨_, _, D, hrg0, Hl.start n m D, (Kp.of_grown hg0).mono (fun i _ e => by cases e)⟩
    case round =>
      obtain ⟨left, cnt, Dc, hrg, hHl, hkp⟩ := hrel
      go_wp2_with (first
        | (at_next; refine next_links _ rfl _ rfl bm w.heap.size nb _ _ _ rfl hrg ?_ ?_)
        | go_in)
      · intro hl0
        have hN := HH.out.nt_of hkp hrg.owns
        have c2' := hN.c2
        have hmap' := hrg.owns
        have hsz := hmap'.size_le
        have hz1 : (Maps.size Dc : Int) ≤ 4611686018427387000 := by have := HN.out; omega
        have hz0 : (0 : Int) ≤ (Maps.size Dc : Int) := by omega
        have HX : Hid (Hd n m D Dc ∧ Nt B wr b bm nb room Dc v c L ∧ Fr b bm v w wr v) := ⟨hHl.out.done hl0, hN, ⟨hkp.mono (fun i _ e => .inr (.inl e)), .inl rfl⟩⟩
        clear hN hsz hHl hkp hl0
        go_wp2_with (first | (at_len; refine wpList_len_own _ rfl _ 75 rfl 86 92 Try.underlying75 unitElem bm nb Dc rfl hmap' ?_) | go_in)
        go_ret
        exact ⟨Dc, rfl, HX.out⟩
      · intro f t w1 cnt1 f0 f1 t0 t1 hrg1 hlt hg1 hen
        have k1 : Kp (fun i => i = bm) w w1 := hkp.trans (Kp.of_grown hg1) (fun i hi e => by
          have e : some i = some w.heap.size := e
          cases e; omega)
        have FI := fun W => fits_any f t n m f0 f1 t0 t1 W
        have hk2 := k1.andAlloc (.cells #[.int .u8 f, .int .u8 t] 86)
        have hrg2 := hrg1.alloc (.cells #[.int .u8 f, .int .u8 t] 86)
        cases hfit : (stF n f && stF m t)
        · rw [hfit] at FI
          have HFIT := hide hfit
          clear hfit
          go_wp2_with fail
          refine (FI _).mono ?_; rintro e w3 ⟨rfl, hk3⟩
          have hrg3 := hrg2.kept hk3.grown (by simp) (by simp)
          have HST := hide (hHl.out.stays f0 f1 t0 t1 HFIT.out)
          have HK := hide (hk2.andNu hk3)
          clear FI hk3
          go_wp2
          exact ⟨⟨_, cnt1, Dc, hrg3, HST, HK.out⟩, by rw [hrg3.left_eq, hrg.left_eq]; exact hlt⟩
        · rw [hfit] at FI
          have HFIT := hide hfit
          clear hfit
          go_wp2_with fail
          refine (FI _).mono ?_; rintro e w3 ⟨rfl, hk3⟩
          have hrg3 := hrg2.kept hk3.grown (by simp) (by simp)
          have HST := hide (hHl.out.struck f0 f1 t0 t1 HFIT.out)
          have HK := hide (hk2.andNu hk3)
          have hbx := new_at w1 _ hk3
          have x0 : w3.cell? ⟨w1.heap.size, 0, none⟩ = some (.int .u8 f) := by simp [World.cell?, hbx]
          have x1 : w3.cell? ⟨w1.heap.size, 1, none⟩ = some (.int .u8 t) := by simp [World.cell?, hbx]
          have c2' := (HH.out.nt_of (hk2.andNu hk3) hrg3.owns).c2
          clear FI hk3 hbx
          obtain ⟨w4, cnt4, hrun, hrg4, hle, hturn⟩ := World.ranges.drop (w := w3.drew) (hrg3.kept ((Kp.refl Nu w3).drew.grown) (by simp) (by simp)) keyed Try.underlying75 (key_lk f0 f1 t0 t1) 0
          rw [strike_twice] at hrg4
          have HRUN := hide hrun
          have HK4 := hide (HK.out.drew.trans (Kp.of_grown hturn.grown) (fun i _ e => by simpa using e))
          have mixed : Try.prog.follows .mixedOrders = true := by kernel_rfl
          clear hrun hturn HK
          go_wp2_with fail
          go_region_law (first | (refine step_delete_run rfl (.tmp 44) (.tmp 45) 75 86 rfl _ _ rfl rfl _ _ HRUN.out ?_))
          all_goals go_wp2
          all_goals exact ⟨⟨_, cnt4, _, hrg4, HST, HK4.out⟩, by rw [hrg4.left_eq, hrg.left_eq]; omega⟩
  · go_enter Try.func33, Try.ntmps33
    go_wp2_with fail
    refine MA.mono ?_; rintro e w2 ⟨rfl, hw2⟩
    obtain rfl := hw2.symm
    clear MA hw2
    go_wp2_with (first | (at_len; refine wpList_len_own _ rfl _ 75 rfl 86 92 Try.underlying75 unitElem bm nb D rfl hmap ?_) | (at_range; refine wpList_range_own _ rfl _ 75 rfl 86 92 keyed Try.underlying75 _ bm nb _ rfl hmap ?_; intro w0 hrg0 hg0 hs0') | go_in)
    go_frame
    go_loopw [33] (fun _ wr => ∃ (left : Lit → Bool) (cnt : Nat) (Dc : DataW Unit), wr.ranges Try.prog 86 unitElem bm w.heap.size nb Dc left cnt ∧ Hid (Hl n m D Dc left) ∧ Kp (fun i => i = bm) w wr) (fun _ wr => wr.rangeLeft bm w.heap.size)
    case atStart => exact ⟨_, _, D, hrg0, Hl.start n m D, (Kp.of_grown hg0).mono (fun i _ e => by cases e)⟩
    case round =>
      obtain ⟨left, cnt, Dc, hrg, hHl, hkp⟩ := hrel
      go_wp2_with (first
        | (at_next; refine next_links _ rfl _ rfl bm w.heap.size nb _ _ _ rfl hrg ?_ ?_)
        | go_in)
      · intro hl0
        have hN := HH.out.nt_of hkp hrg.owns
        have c2' := hN.c2
        have hmap' := hrg.owns
        have hsz := hmap'.size_le
        have hz1 : (Maps.size Dc : Int) ≤ 4611686018427387000 := by have := HN.out; omega
        have hz0 : (0 : Int) ≤ (Maps.size Dc : Int) := by omega
        have HX : Hid (Hd n m D Dc ∧ Nt B wr b bm nb room Dc v c L ∧ Fr b bm v w wr v) := ⟨hHl.out.done hl0, hN, ⟨hkp.mono (fun i _ e => .inr (.inl e)), .inl rfl⟩⟩
        clear hN hsz hHl hkp hl0
        go_wp2_with (first | (at_len; refine wpList_len_own _ rfl _ 75 rfl 86 92 Try.underlying75 unitElem bm nb Dc rfl hmap' ?_) | go_in)
        go_ret
        exact ⟨Dc, rfl, HX.out⟩
      · intro f t w1 cnt1 f0 f1 t0 t1 hrg1 hlt hg1 hen
        have k1 : Kp (fun i => i = bm) w w1 := hkp.trans (Kp.of_grown hg1) (fun i hi e => by
          have e : some i = some w.heap.size := e
          cases e; omega)
        have FI := fun W => fits_any f t n m f0 f1 t0 t1 W
        have hk2 := k1.andAlloc (.cells #[.int .u8 f, .int .u8 t] 86)
        have hrg2 := hrg1.alloc (.cells #[.int .u8 f, .int .u8 t] 86)
        cases hfit : (stF n f && stF m t)
        · rw [hfit] at FI
          have HFIT := hide hfit
          clear hfit
          go_wp2_with fail
          refine (FI _).mono ?_; rintro e w3 ⟨rfl, hk3⟩
          have hrg3 := hrg2.kept hk3.grown (by simp) (by simp)
          have HST := hide (hHl.out.stays f0 f1 t0 t1 HFIT.out)
          have HK := hide (hk2.andNu hk3)
          clear FI hk3
          go_wp2
          exact ⟨⟨_, cnt1, Dc, hrg3, HST, HK.out⟩, by rw [hrg3.left_eq, hrg.left_eq]; exact hlt⟩
        · rw [hfit] at FI
          have HFIT := hide hfit
          clear hfit
          go_wp2_with fail
          refine (FI _).mono ?_; rintro e w3 ⟨rfl, hk3⟩
          have hrg3 := hrg2.kept hk3.grown (by simp) (by simp)
          have HST := hide (hHl.out.struck f0 f1 t0 t1 HFIT.out)
          have HK := hide (hk2.andNu hk3)
          have hbx := new_at w1 _ hk3
          have x0 : w3.cell? ⟨w1.heap.size, 0, none⟩ = some (.int .u8 f) := by simp [World.cell?, hbx]
          have x1 : w3.cell? ⟨w1.heap.size, 1, none⟩ = some (.int .u8 t) := by simp [World.cell?, hbx]
          have c2' := (HH.out.nt_of (hk2.andNu hk3) hrg3.owns).c2
          clear FI hk3 hbx
          obtain ⟨w4, cnt4, hrun, hrg4, hle, hturn⟩ := World.ranges.drop (w := w3.drew) (hrg3.kept ((Kp.refl Nu w3).drew.grown) (by simp) (by simp)) keyed Try.underlying75 (key_lk f0 f1 t0 t1) 0
          rw [strike_twice] at hrg4
          have HRUN := hide hrun
          have HK4 := hide (HK.out.drew.trans (Kp.of_grown hturn.grown) (fun i _ e => by simpa using e))
          have mixed : Try.prog.follows .mixedOrders = true := by kernel_rfl
          clear hrun hturn HK
          go_wp2_with fail
          go_region_law (first | (refine step_delete_run rfl (.tmp 44) (.tmp 45) 75 86 rfl _ _ rfl rfl _ _ HRUN.out ?_))
          all_goals go_wp2
          all_goals exact ⟨⟨_, cnt4, _, hrg4, HST, HK4.out⟩, by rw [hrg4.left_eq, hrg.left_eq]; omega⟩
end
end Go.Proofs.Ythajboipnjjgfaa.Ly
