import Derived.Test.YtmlnglillgplfaaGreatCtG
import Derived.Test.YtmlnglillgplfaaGreatRcF
namespace Go.Proofs.YtmlnglillgplfaaGreat.Cl
open Go.RowKit Go.Maps
set_option linter.unusedVariables false
theorem ov_mid : ∀ (vs zs pre post : List Value), zs.length = vs.length → ov (pre ++ zs ++ post).toArray pre.length vs = (pre ++ vs ++ post).toArray
  | [], [], pre, post, _ => by simp [ov]
  | [], z :: zs, pre, post, h => by simp at h
  | v :: vs, [], pre, post, h => by simp at h
  | v :: vs, z :: zs, pre, post, h => by
    have ih := ov_mid vs zs (pre ++ [v]) post (by simpa using h)
    unfold ov
    rw [List.setIfInBounds_toArray, List.append_assoc pre, List.set_append_right _ _ (Nat.le_refl _), Nat.sub_self, List.cons_append, List.set_cons_zero]
    simpa using ih
/-- a struct stored into the midst of a block -/
theorem wpList_store_in {ops : Array Oper} {rest : List Oper} {op : Oper} {a : Act} {w : World} {Q : Exit → Act → World → Prop} (ty n : Nat) (x y : Operand) (hgd : op.guard = none) (ho : op.op = .store ty x y)
    (hi : (Tryz.prog.info? ty).map (·.size) = some n) (b o : Nat) (vs : Array Value) (hx : a.eval x = .pointer (some ⟨b, o, none⟩)) (hy : a.eval y = .agg vs) {t : TypeId} (pre zs post : List Value) (hc : w.heap[b]? = some (.cells (pre ++ zs ++ post).toArray t (0, 0)))
    (hl : pre.length = o) (hz : zs.length = n) (hv : vs.size = n) (h1 : vs.all (·.oneCell') = true)
    (h : ∀ W, W.heap[b]? = some (.cells (pre ++ vs.toList ++ post).toArray t (0, 0)) → Kp (fun i => i = b) w W → wpList Tryz.prog ops Q rest (a.put op.dst undef) W) : wpList Tryz.prog ops Q (op :: rest) a w := by
  refine wpList_store_mid hgd ty x y ho b o vs hx hy (there_of hc o _ (by simp; omega)) (by rw [hv]; exact hi) h1 ?_
  refine h _ ?_ (kp_setCells _ o _)
  have := setCells_heap vs.toList o w _ hc
  rw [this]
  subst hl
  rw [ov_mid vs.toList zs pre post (by simp [hz, hv])]
/-- the client that has begun -/
def Cs.beg (s : Cs) (k key hi : Int) (v o : Sl) (has : Bool) (lim : Int) : Cs := ⟨s.hosts, s.pat, s.tries, s.hb, k, key, hi, v, o, has, lim, 1, s.seq + 1, 0, Sl.nil, Sl.nil, 0, 0, 0, 0, s.mb, s.ticks, 0⟩
theorem box_k {w w1 : World} {b : Nat} {c : Array Value} {ty : TypeId} (h : w.heap[b]? = some (.cells c ty (0, 0))) (k : Kp Nu w w1) : w1.heap[b]? = some (.cells c ty (0, 0)) := (k.block b (blk_lt h) (fun h => h)).trans h
def Cs.p1 (s : Cs) : List Value := [.int .i64 s.hosts, .int .i64 s.pat, .int .i64 s.tries, .pointer (some ⟨s.hb, 0, none⟩)]
def Cs.p2 (s : Cs) : List Value := [.int .u8 s.rk, .int .u64 s.rkey, .int .u64 s.rhi, s.rv.val, s.ro.val, .bool s.rhas, .int .u8 s.rlim]
def Cs.p3 (s : Cs) : List Value := [.int .u8 s.ph, .int .u64 s.seq, .int .u8 s.st, s.ov.val, s.op.val, .int .u64 s.ohi, .int .u8 s.host, .int .i64 s.sent, .int .i64 s.hops]
def Cs.p4 (s : Cs) : List Value := [.map (some s.mb), .int .i64 s.ticks, .int .i64 s.tmo]
def nr (k key hi : Int) (v o : Sl) (has : Bool) (lim : Int) : List Value := [.int .u8 k, .int .u64 key, .int .u64 hi, .slice v.a v.n v.c, .slice o.a o.n o.c, .bool has, .int .u8 lim]
theorem unhid {p : Prop} (h : Hid p) : p := h.out
theorem isReq (w : World) (k : Int) (h1 : 1 ≤ k) (h5 : k ≤ 5) : Calls Tryz.prog 51 #[.int .u8 k] w fun e w' => e = .returned (.bool true) ∧ w' = w := by
  have hc : k = 1 ∨ k = 2 ∨ k = 3 ∨ k = 4 ∨ k = 5 := by omega
  clear h1 h5
  rcases hc with rfl | rfl | rfl | rfl | rfl <;>
  · go_enter Tryz.func51, Tryz.ntmps51
    go_wp2
    go_ret
    exact ⟨rfl, rfl⟩
theorem wrapU64 {x : Int} (h0 : 0 ≤ x) (h1 : x < 18446744073709551616) : IntKind.u64.wrap x = x := by
  simp only [IntKind.wrap, IntKind.signed, IntKind.bits]
  first | omega | (simp; omega)
set_option maxRecDepth 100000 in
set_option maxHeartbeats 4000000 in
theorem begin_ok {w : World} {b nb B : Nat} {s : Cs} {D : DataW Unit} {tv : Value} {L : List Rg.Sg} (hc : CB w b s) (hm : Am w s.mb nb D) (hp : ¬ s.ph = 1) (hT : Rg.Tb B w s.hb 64 tv L)
    (k key hi lim : Int) (v o : Sl) (has : Bool) (V O : List Int) (hv : Ct w v V) (ho : Ct w o O) (hB : RqB k key hi lim) (hR : RqOk k key hi v o has lim) (q0 : 0 ≤ s.seq) (q1 : s.seq + 1 < 18446744073709551616) (o0 : 0 ≤ Rg.ow L key) (o1 : Rg.ow L key < 256) :
    Calls Tryz.prog 19 #[.pointer (some ⟨b, 0, none⟩), .agg #[.int .u8 k, .int .u64 key, .int .u64 hi, v.val, o.val, .bool has, .int .u8 lim]] w fun e w' => ∃ g v' o', e = .returned (.tuple #[.slice (some ⟨g, 0, none⟩) 1 1, .int .i64 0]) ∧ Snt w' (.slice (some ⟨g, 0, none⟩) 1 1) (Rg.ow L key) (s.beg k key hi v' o' has lim) V O ∧ w.heap.size ≤ g ∧ Cl w' b { s.beg k key hi v' o' has lim with host := Rg.ow L key, sent := 1, ticks := 0 } 1 ((DataW.map []).put (Lit.int .u8 (Rg.ow L key)) (.agg [])) V O ∧ Kp (fun i => i = b ∨ i = s.mb) w w' := by
  have mixed : Tryz.prog.follows .mixedOrders = true := by kernel_rfl
  obtain ⟨fit1, fit2, fit3, lv64, lo64⟩ := rq_fit hR (s.seq + 1) (by omega)
  have lv : V.length ≤ 3072 := by have := hv.n; omega
  have lo : O.length ≤ 3072 := by have := ho.n; omega
  have MA := fun W (kp : Kp Nu w W) => made_any (hc.nu kp)
  have WN := fun W (kp : Kp Nu w W) => waits_no (hc.nu kp) hp
  have IR := fun W => isReq W k hR.1.1 hR.1.2
  have MO := fun W => messageOf_any W k key hi lim (s.seq + 1) v.a o.a v.n v.c o.n o.c has
  have CK := fun W => check_ok W (rqM k (s.seq + 1) key hi v o has lim) (rqM_ok hB ⟨by omega, q1⟩) hR.1.1 (by have := hR.1.2; show k ≤ 7; omega) fit1 (by rw [fit2]; intro f hf; cases hf) fit3
  have CP := fun W (kp : Kp Nu w W) => copy_any W k key hi lim has v o V O (hv.rd.nu kp) (ho.rd.nu kp) lv lo
  have e1 := wrapU64 (x := s.seq + 1) (by omega) q1
  simp only [Mg.cells, rqM, Sl.val, Sl.nil] at CK
  unfold Sl.val at CP ⊢
  have HC := hide hc
  have HM := hide hm
  have HT := hide hT
  have HX := hide (And.intro hB.key (And.intro o0 (And.intro o1 (And.intro lv lo))))
  clear hc hm hp hT hv ho hB hR q0 q1 o0 o1 fit1 fit2 fit3 lv64 lo64 lv lo
  go_enter Tryz.func19, Tryz.ntmps19
  obtain ⟨wa, hwa⟩ : ∃ wa, w.alloc (.cells #[.int .u8 k, .int .u64 key, .int .u64 hi, .slice v.a v.n v.c, .slice o.a o.n o.c, .bool has, .int .u8 lim] 26) = wa := ⟨_, rfl⟩
  have KA : Kp Nu w wa := by rw [← hwa]; exact Kp.alloc _ _ _
  have hA : wa.heap[w.heap.size]? = some (.cells #[.int .u8 k, .int .u64 key, .int .u64 hi, .slice v.a v.n v.c, .slice o.a o.n o.c, .bool has, .int .u8 lim] 26 (0, 0)) := by rw [← hwa]; exact heap_new w _
  have HA := hide hA
  have HKA := hide KA
  have x0 := cellAt hA 0 (by rfl); have x1 := cellAt hA 1 (by rfl); have x2 := cellAt hA 2 (by rfl); have x3 := cellAt hA 3 (by rfl); have x4 := cellAt hA 4 (by rfl); have x5 := cellAt hA 5 (by rfl); have x6 := cellAt hA 6 (by rfl)
  have c_seq := (HC.out.nu KA).c_seq
  have MA1 := MA wa KA
  have WN1 := WN wa KA
  clear KA hA MA WN
  go_wp2_with fail
  refine MA1.mono ?_; rintro e w' ⟨rfl, hw⟩
  obtain rfl := hw.symm
  clear MA1 hw
  go_wp2_with fail
  refine WN1.mono ?_; rintro e w' ⟨rfl, hw⟩
  obtain rfl := hw.symm
  clear WN1 hw
  go_wp2_with fail
  refine (IR _).mono ?_; rintro e w' ⟨rfl, hw⟩
  obtain rfl := hw.symm
  clear IR hw
  go_wp2_with fail
  refine (MO _).mono ?_; rintro e w1 ⟨rfl, hk1⟩
  have HA1 := hide (box_k HA.out hk1)
  have HK1 := hide (HKA.out.andNu hk1)
  clear x0 x1 x2 x3 x4 x5 x6
  clear MO hk1
  go_wp2_with fail
  refine (CK _).mono ?_; rintro e w2 ⟨rfl, hk2⟩
  have HA2 := hide (box_k HA1.out hk2)
  have HK2 := hide (HK1.out.andNu hk2)
  clear CK hk2 HA1 HK1
  go_wp2_with (guard_target =~ wpList _ _ _ ({ dst := _, op := Op.load 26 (Operand.tmp 3), type := _, pos := _, after := _, guard := _ } :: _) _ _; refine wpList_load_all 26 7 (.tmp 3) rfl rfl info26 _ Tryz.underlying26 rfl _ rfl HA2.out rfl ?_)
  refine (CP _ HK2.out).mono ?_; rintro e w3 ⟨v', o', rfl, hbv, hbo, hk3⟩
  have HA3 := hide (box_k HA2.out hk3)
  have HK3 := hide (HK2.out.andNu hk3)
  have HBV := hide (And.intro hbv hbo)
  have HC3 := hide (HC.out.nu HK3.out)
  clear CP hk3 hbv hbo HA2 HK2
  have hbS : ∀ (W : World) (s' : Cs), CB W b s' → ∀ i, i = b → ∀ c, W.heap[i]? ≠ some (.cells c 5 (0, 0)) := fun W s' h i hi c hx5 => by rw [hi, h] at hx5; cases hx5
  have hbT : ∀ (W : World) (s' : Cs), CB W b s' → ∀ i, i = b → ∀ c, W.heap[i]? ≠ some (.cells c 76 (0, 0)) := fun W s' h i hi c hx5 => by rw [hi, h] at hx5; cases hx5
  go_wp2_with (guard_target =~ wpList _ _ _ ({ dst := none, op := Op.store 26 (Operand.tmp 35) (Operand.tmp 33), type := _, pos := _, after := _, guard := _ } :: _) _ _; refine unhid ?_)
  refine hide ?_
  refine wpList_store_in 26 7 (.tmp 35) (.tmp 33) rfl rfl info26 b 4 _ rfl rfl s.p1 s.p2 (s.p3 ++ s.p4) (show w3.heap[b]? = some (.cells (s.p1 ++ s.p2 ++ (s.p3 ++ s.p4)).toArray 122 (0, 0)) from HC3.out) rfl rfl rfl (by simp [Value.oneCell']) ?_
  intro w4 hw4 hk4
  have HW4 : Hid (w4.heap[b]? = some (.cells (s.p1 ++ (nr k key hi v' o' has lim) ++ (s.p3 ++ s.p4)).toArray 122 (0, 0))) := hw4
  have HK4 := hide hk4
  clear hw4 hk4
  go_wp2_with (guard_target =~ wpList _ _ _ ({ dst := none, op := Op.store 55 (Operand.tmp 40) (Operand.tmp 38), type := _, pos := _, after := _, guard := _ } :: _) _ _; refine unhid ?_)
  refine hide ?_
  refine wpList_store_in 55 9 (.tmp 40) (.tmp 38) rfl rfl info55 b 11 _ rfl rfl (s.p1 ++ (nr k key hi v' o' has lim)) s.p3 s.p4 (by have := HW4.out; rw [← List.append_assoc] at this; exact this) rfl rfl rfl (by simp [Value.oneCell']) ?_
  intro w5 hw5 hk5
  have HW5 : Hid (CB w5 b { s.beg k key hi v' o' has lim with tmo := s.tmo }) := hw5
  have HK5 := hide hk5
  have x22 : w5.cell? ⟨b, 22, none⟩ = some (.int .i64 s.tmo) := HW5.out.c_tmo
  have f22 := HW5.out.free 22
  clear hw5 hk5
  go_wp2_with fail
  obtain ⟨W, hW⟩ : ∃ W, w5.setCell ⟨b, 22, none⟩ (.int .i64 0) = W := ⟨_, rfl⟩
  have hCW : CB W b (s.beg k key hi v' o' has lim) := by rw [← hW]; exact HW5.out.s_tmo 0
  have k35 : Kp (fun i => i = b) w3 W := by
    rw [← hW]
    exact (HK4.out.trans HK5.out (fun _ _ e => e)).andSet ⟨b, 22, none⟩ _ (.inr rfl)
  have hM3 : Am w3 s.mb nb D := HM.out.keep (HK3.out.block _ HM.out.lt (fun h => h))
  have hT3 : Rg.Tb B w3 s.hb 64 tv L := HT.out.nu (kpR' HK3.out)
  have hne1 : s.mb ≠ b := fun e => by
    obtain ⟨es, cl, hx⟩ := hM3.obj
    rw [e, HC3.out] at hx; cases hx
  have hne2 : s.hb ≠ b := fun e => by
    have hx := hT3.blk
    rw [e, HC3.out] at hx
    simp at hx
  have hMW : Am W s.mb nb D := hM3.keep (k35.block _ hM3.lt hne1)
  have hTW : Rg.Tb B W s.hb 64 tv L := tb_kp hT3 k35 hne2 (hbT w3 s HC3.out)
  have hVW : Bt W v' V := HBV.out.1.kp k35 (hbS w3 s HC3.out)
  have hOW : Bt W o' O := HBV.out.2.kp k35 (hbS w3 s HC3.out)
  have hbl : b < w.heap.size := HC.out.lt
  have hAW := (k35.block _ (blk_lt HA3.out) (fun e => by have e : w.heap.size = b := e; omega)).trans HA3.out
  have y1 := cellAt hAW 1 (by rfl)
  have c_hb : W.cell? ⟨b, 3, none⟩ = some (.pointer (some ⟨s.hb, 0, none⟩)) := hCW.c_hb
  have hClW : Cl W b (s.beg k key hi v' o' has lim) nb D V O := ⟨hCW, hMW, hVW, hOW, HX.out.2.2.2.1, HX.out.2.2.2.2⟩
  have hKW : Kp (fun i => i = b ∨ i = s.mb) w W := (HK3.out.mono (T := fun i => i = b ∨ i = s.mb) (fun _ _ h => h.elim)).trans k35 (fun _ _ e => .inl e)
  have HCLW := hide hClW
  have HTW := hide hTW
  have HKW := hide hKW
  rw [hW]
  clear hCW k35 hM3 hT3 hne1 hne2 hMW hTW hVW hOW hAW hClW hKW hW HK4 HK5 HW4 HW5 x22 f22 hbS hbT HBV HC3 HA3 hbl c_seq e1
  have HBX : Hid (∀ X, Kp Nu W X → X.cell? ⟨w.heap.size, 1, none⟩ = some (.int .u64 key)) := fun X hX => (World.cell?_of_block (hX.block _ (World.block_lt_of_cell? W _ y1) (fun h => h))).trans y1
  have HS : ∀ X, Kp Nu W X → (X.cell? ⟨b, 3, none⟩ = some (.pointer (some ⟨s.hb, 0, none⟩)) ∧ X.cell? ⟨w.heap.size, 1, none⟩ = some (.int .u64 key)) := fun X hX => ⟨(HCLW.out.cb.nu hX).c_hb, HBX.out X hX⟩
  have hwb : w.heap.size < W.heap.size := World.block_lt_of_cell? W _ y1
  have hnm : w.heap.size ≠ s.mb := fun e => by have := HM.out.lt; omega
  have hnb : w.heap.size ≠ b := fun e => by have := HC.out.lt; omega
  have LK := fun X (hX : Kp Nu W X) => (Rg.lookup_any (HTW.out.nu (kpR' hX)) key HX.out.1.1 HX.out.1.2).mono (fun e w' h => (⟨h.1, hX.andNu (kpR h.2)⟩ : e = .returned (.int .u8 (Rg.ow L key)) ∧ Kp Nu W w'))
  have NX : ∀ X, Kp Nu W X → Calls Tryz.prog 55 #[.pointer (some ⟨b, 0, none⟩), .int .u8 (Rg.ow L key)] X fun e w' => ∃ g, e = .returned (.slice (some ⟨g, 0, none⟩) 1 1) ∧ Hid (Snt w' (.slice (some ⟨g, 0, none⟩) 1 1) (Rg.ow L key) (s.beg k key hi v' o' has lim) V O ∧ w.heap.size ≤ g ∧ Cl w' b { s.beg k key hi v' o' has lim with host := Rg.ow L key, sent := 1, ticks := 0 } 1 ((DataW.map []).put (Lit.int .u8 (Rg.ow L key)) (.agg [])) V O ∧ Kp (fun i => i = b ∨ i = s.mb) w w') ∧ w'.cell? ⟨b, 3, none⟩ = some (.pointer (some ⟨s.hb, 0, none⟩)) ∧ w'.cell? ⟨w.heap.size, 1, none⟩ = some (.int .u64 key) := fun X hX =>
    ((HCLW.out.nu hX).next (Rg.ow L key) HX.out.2.1 HX.out.2.2.1 (by show (0 : Int) ≤ 0; omega) (by show (0 : Int) < 1000000; omega)).mono (fun e w' h => by
      obtain ⟨g, v7, o7, rfl, hsn, hgl, hcl, hk7, _⟩ := h
      exact ⟨g, rfl, ⟨hsn, Nat.le_trans (HKW.out.andNu hX).size hgl, hcl, (HKW.out.andNu hX).trans hk7 (fun _ _ e => e)⟩, hcl.cb.c_hb, (World.cell?_of_block (hk7.block _ (Nat.lt_of_lt_of_le hwb hX.size) (fun e => Or.elim e hnb hnm))).trans (HBX.out X hX)⟩)
  clear y1 c_hb hwb hnm hnb
  go_region_held3 (fun X => X.cell? ⟨b, 3, none⟩ = some (.pointer (some ⟨s.hb, 0, none⟩)) ∧ X.cell? ⟨w.heap.size, 1, none⟩ = some (.int .u64 key)) (first | (exact ⟨by assumption, by assumption⟩) | (refine HS _ ?_; (repeat (first | assumption | exact Kp.refl _ _ | apply Kp.drew)); done)) (first | (go_at_call 56; refine (LK _ ?_).mono ?_; (repeat (first | assumption | exact Kp.refl _ _ | apply Kp.drew)); rintro e w6 ⟨rfl, hk6⟩) | (go_at_call 55; refine (NX _ ?_).mono ?_; (first | assumption); rintro e w7 ⟨g, rfl, HF, s71, s72⟩))
  clear LK NX HS s71 s72 hk6
  go_wp2
  go_ret2
  obtain ⟨hsn, hgl, hcl, hk7⟩ := HF.out
  exact ⟨g, v', o', rfl, hsn, hgl, hcl, hk7⟩
end Go.Proofs.YtmlnglillgplfaaGreat.Cl
