import Derived.Test.YtmlnglillgplfaaGreatCtR
namespace Go.Proofs.YtmlnglillgplfaaGreat.Cl
open Go.RowKit Go.Maps
set_option linter.unusedVariables false
theorem results_tct {fn : Func} {t p u : Tmp} {ty : TypeId} (h : fn.results = #[.tmp t, .cell p ty, .tmp u]) (tmps : Array Value) (w : World) (a : Addr) (x : Value) (hp : tmps.getD p undef = .pointer (some a)) (hl : (loadVar ty a).run Tryz.prog w = .ok x w) :
    (results fn tmps).run Tryz.prog w = .ok (.tuple #[tmps.getD t undef, x, tmps.getD u undef]) w := by
  have hp' : tmps[p]?.getD undef = .pointer (some a) := by simpa using hp
  simp [results, h, hp', asAddr, hl, Result.andThen]
theorem ow_one (key : Int) (h0 : 0 ≤ key) (h1 : key < 18446744073709551616) : Rg.ow [⟨0, 18446744073709551615, 0⟩] key = 0 := by
  simp only [Rg.ow]
  split
  · rfl
  · omega
theorem sameT (w : World) (k seq key hi lim : Int) (has : Bool) (v1 o1 v2 o2 : Sl) (V O : List Int) (a1 : Ct w v1 V) (b1 : Ct w o1 O) (a2 : Ct w v2 V) (b2 : Ct w o2 O) :
    Calls Tryz.prog 29 #[.agg #[.int .u8 k, .int .u64 seq, .int .u64 key, .int .u64 hi, .slice v1.a v1.n v1.c, .slice o1.a o1.n o1.c, .bool has, .int .u8 0, .int .u8 0, .int .u8 0, .int .u32 0, .int .u32 0, .int .u64 0, .int .u8 lim, .slice none 0 0, .slice none 0 0, .slice none 0 0], .agg #[.int .u8 k, .int .u64 seq, .int .u64 key, .int .u64 hi, .slice v2.a v2.n v2.c, .slice o2.a o2.n o2.c, .bool has, .int .u8 0, .int .u8 0, .int .u8 0, .int .u32 0, .int .u32 0, .int .u64 0, .int .u8 lim, .slice none 0 0, .slice none 0 0, .slice none 0 0]] w fun e w' => e = .returned (.bool true) ∧ Kp Nu w w' := by
  obtain ⟨va1, vn1, vc1⟩ := v1
  obtain ⟨va2, vn2, vc2⟩ := v2
  obtain ⟨oa1, on1, oc1⟩ := o1
  obtain ⟨oa2, on2, oc2⟩ := o2
  have e1 := a1.n; have e2 := a2.n; have e3 := b1.n; have e4 := b2.n
  simp only [] at e1 e2 e3 e4
  subst e1 e2 e3 e4
  refine (same_any w k seq key hi 0 0 0 0 0 0 lim has V O [] va1 oa1 none none none vc1 oc1 0 0 0 k seq key hi 0 0 0 0 0 0 lim has V O [] va2 oa2 none none none vc2 oc2 0 0 0 a1.rd b1.rd (.inl ⟨rfl, rfl⟩) a1.by_ b1.by_ (fun _ h => by cases h) a2.rd b2.rd (.inl ⟨rfl, rfl⟩) a2.by_ b2.by_ (fun _ h => by cases h)).mono ?_
  rintro e w' ⟨rfl, hk⟩
  exact ⟨by simp, hk⟩
theorem Bt.ct {w : World} {s : Sl} {ys : List Int} (h : Bt w s ys) (hb : Byt ys) : Ct w s ys := ⟨h.rd, hb, h.n⟩
/-- the client whose request is under way -/
def Cs.run (hosts pat tries : Int) (hb mb : Nat) (k key hi : Int) (v o : Sl) (has : Bool) (lim : Int) : Cs := ⟨hosts, pat, tries, hb, k, key, hi, v, o, has, lim, 1, 1, 0, Sl.nil, Sl.nil, 0, 0, 1, 0, mb, 0, 0⟩
/-- the first thing to be sent -/
def out1 (k key hi : Int) (v o : Sl) (has : Bool) (lim : Int) : Array Value := #[.int .u8 0, .int .u8 k, .int .u64 1, .int .u64 key, .int .u64 hi, v.val, o.val, .bool has, .int .u8 0, .int .u8 0, .int .u8 0, .int .u32 0, .int .u32 0, .int .u64 0, .int .u8 lim, .slice none 0 0, .slice none 0 0, .slice none 0 0]
set_option maxRecDepth 100000 in
set_option maxHeartbeats 4000000 in
theorem begun_tb (w : World) (hosts pat tries : Int) (h0 : 1 ≤ hosts) (h1 : hosts ≤ 16) (p0 : 1 ≤ pat) (p1 : pat ≤ 64) (t0 : 1 ≤ tries) (t1 : tries ≤ 64) (k key hi lim : Int) (v o : Sl) (has : Bool) (V O : List Int) (hv : Ct w v V) (ho : Ct w o O) (hB : RqB k key hi lim) (hR : RqOk k key hi v o has lim) :
    Calls Tryz.prog 17 #[.int .i64 hosts, .int .i64 pat, .int .i64 tries, .agg #[.int .u8 k, .int .u64 key, .int .u64 hi, v.val, o.val, .bool has, .int .u8 lim]] w fun e w' => ∃ b hb mb v' o' v1 o1, e = .returned (.tuple #[.pointer (some ⟨b, 0, none⟩), .agg (out1 k key hi v1 o1 has lim), .bool true]) ∧ Cl w' b (Cs.run hosts pat tries hb mb k key hi v' o' has lim) 1 ((DataW.map []).put (Lit.int .u8 0) (.agg [])) V O ∧ Bt w' v1 V ∧ Bt w' o1 O ∧ w.heap.size ≤ b ∧ w.heap.size ≤ mb ∧ (∃ tv, Rg.Tb w.heap.size w' hb 64 tv [⟨0, 18446744073709551615, 0⟩]) ∧ Kp Nu w w' := by
  have mixed : Tryz.prog.follows .mixedOrders = true := by kernel_rfl
  have NC := fun W => new_client W 20 hosts pat tries (by omega) (by omega) h0 h1 p0 p1 t0 t1
  have NM := fun W => num_any W 0
  have BG := fun (W : World) (kp : Kp Nu w W) b hb mb tv (hc : CB W b (Cs.new hosts pat tries hb mb)) (hm : Am W mb 0 (.map [])) (B : Nat) (hT : Rg.Tb B W hb 64 tv [⟨0, 18446744073709551615, 0⟩]) => begin_ok (s := Cs.new hosts pat tries hb mb) hc hm (by show ¬ (0 : Int) = 1; omega) hT k key hi lim v o has V O (hv.nu kp) (ho.nu kp) hB hR (by show (0 : Int) ≤ 0; omega) (by show (0 : Int) + 1 < _; omega) (by rw [ow_one key hB.key.1 hB.key.2]; omega) (by rw [ow_one key hB.key.1 hB.key.2]; omega)
  rw [ow_one key hB.key.1 hB.key.2] at BG
  unfold Sl.val at BG ⊢
  have hh : ¬ (0 : Int) ≥ hosts := by omega
  have HX := hide (And.intro hv ho)
  clear hv ho hB hR h0 h1 p0 p1 t0 t1
  go_enter Tryz.func17, Tryz.ntmps17
  go_wp2_with fail
  refine (NC _).mono ?_; rintro e w1 ⟨b, hb, mb, tv, rfl, hc1, hm1, hT1, hbl, hml, hk1⟩
  have HA1 := hide ((hk1.block _ (by simp; omega) (fun h => h)).trans (new12 w _ _))
  have HZ1 := hide ((hk1.block _ (by simp) (fun h => h)).trans (new2 w _ _))
  have HK1 := hide (((Kp.alloc w _ Nu).andAlloc _).andNu hk1)
  have B1 := BG w1 HK1.out b hb mb tv hc1 hm1 _ hT1
  have HT1 := hide (And.intro hT1 (And.intro hc1 hm1))
  have HBL : Hid (w.heap.size + 2 ≤ b ∧ w.heap.size + 2 ≤ mb) := ⟨by simpa using hbl, by simpa using hml⟩
  clear NC BG hc1 hm1 hT1 hbl hml hk1
  go_wp2_with fail
  refine (NM _).mono ?_; rintro e w' ⟨rfl, hw⟩
  obtain rfl := hw.symm
  clear hw
  go_wp2_with (guard_target =~ wpList _ _ _ ({ dst := _, op := Op.load 26 (Operand.tmp 7), type := _, pos := _, after := _, guard := _ } :: _) _ _; refine wpList_load_all 26 7 (.tmp 7) rfl rfl info26 _ Tryz.underlying26 rfl _ rfl HA1.out rfl ?_)
  refine B1.mono ?_; rintro e w2 ⟨g, v', o', rfl, hsn, hgl, hcl, hk2⟩
  obtain ⟨g', v1, o1, eg, hg, hv1, ho1⟩ := hsn.out
  simp only [Value.slice.injEq, Option.some.injEq, Addr.mk.injEq, and_true] at eg
  obtain rfl := eg
  have hbb := HBL.out
  have hA2 := (hk2.block _ (blk_lt HA1.out) (fun e => Or.elim e (fun e => by have e' : w.heap.size = b := e; omega) (fun e => by have e' : w.heap.size = mb := e; omega))).trans HA1.out
  have hZ2 := (hk2.block _ (blk_lt HZ1.out) (fun e => Or.elim e (fun e => by have e' : w.heap.size + 1 = b := e; omega) (fun e => by have e' : w.heap.size + 1 = mb := e; omega))).trans HZ1.out
  have hmsg : ∀ X, Kp Nu w2 X → (X.cell? ⟨g, 1, none⟩ = some (.int .u8 k) ∧ X.cell? ⟨g, 2, none⟩ = some (.int .u64 1) ∧ X.cell? ⟨g, 3, none⟩ = some (.int .u64 key) ∧ X.cell? ⟨g, 4, none⟩ = some (.int .u64 hi) ∧ X.cell? ⟨g, 5, none⟩ = some (.slice v1.a v1.n v1.c) ∧ X.cell? ⟨g, 6, none⟩ = some (.slice o1.a o1.n o1.c) ∧ X.cell? ⟨g, 7, none⟩ = some (.bool has) ∧ X.cell? ⟨g, 8, none⟩ = some (.int .u8 0) ∧ X.cell? ⟨g, 9, none⟩ = some (.int .u8 0) ∧ X.cell? ⟨g, 10, none⟩ = some (.int .u8 0) ∧ X.cell? ⟨g, 11, none⟩ = some (.int .u32 0) ∧ X.cell? ⟨g, 12, none⟩ = some (.int .u32 0) ∧ X.cell? ⟨g, 13, none⟩ = some (.int .u64 0) ∧ X.cell? ⟨g, 14, none⟩ = some (.int .u8 lim) ∧ X.cell? ⟨g, 15, none⟩ = some (.slice none 0 0) ∧ X.cell? ⟨g, 16, none⟩ = some (.slice none 0 0) ∧ X.cell? ⟨g, 17, none⟩ = some (.slice none 0 0)
      ∧ X.cell? ⟨w.heap.size, 0, none⟩ = some (.int .u8 k) ∧ X.cell? ⟨w.heap.size, 1, none⟩ = some (.int .u64 key) ∧ X.cell? ⟨w.heap.size, 2, none⟩ = some (.int .u64 hi) ∧ X.cell? ⟨w.heap.size, 3, none⟩ = some (.slice v.a v.n v.c) ∧ X.cell? ⟨w.heap.size, 4, none⟩ = some (.slice o.a o.n o.c) ∧ X.cell? ⟨w.heap.size, 5, none⟩ = some (.bool has) ∧ X.cell? ⟨w.heap.size, 6, none⟩ = some (.int .u8 lim)) := fun X hX => by
    have h1 := box_k hg hX
    have h2 := box_k hA2 hX
    exact ⟨cellAt h1 1 rfl, cellAt h1 2 rfl, cellAt h1 3 rfl, cellAt h1 4 rfl, cellAt h1 5 rfl, cellAt h1 6 rfl, cellAt h1 7 rfl, cellAt h1 8 rfl, cellAt h1 9 rfl, cellAt h1 10 rfl, cellAt h1 11 rfl, cellAt h1 12 rfl, cellAt h1 13 rfl, cellAt h1 14 rfl, cellAt h1 15 rfl, cellAt h1 16 rfl, cellAt h1 17 rfl, cellAt h2 0 rfl, cellAt h2 1 rfl, cellAt h2 2 rfl, cellAt h2 3 rfl, cellAt h2 4 rfl, cellAt h2 5 rfl, cellAt h2 6 rfl⟩
  have g0 := cellAt hg 0 (v := .int .u8 0) rfl
  have HT2 := hide (tb_cl HT1.out.1 HT1.out.2.1 HT1.out.2.2 hk2)
  have KW2 : Kp Nu w w2 := HK1.out.trans hk2 (fun i hi e => Or.elim e (fun e => by have e' : i = b := e; omega) (fun e => by have e' : i = mb := e; omega))
  have HG := hide hg
  have HGL : Hid (w.heap.size + 2 ≤ g) := by have h1 := hgl; have h2 := HK1.out.size; have h3 := blk_lt HZ1.out; show w.heap.size + 2 ≤ g; omega
  have HZ2 := hide hZ2
  have HZW := hide hZ2
  have HV1 := hide (And.intro hv1 (And.intro ho1 hcl))
  have HKW2 := hide KW2
  clear B1 hsn hgl hcl hk2 hg hv1 ho1 hbb hA2 hZ2 KW2 HA1 HZ1 HK1 HT1
  go_wp2_with fail
  refine (NM _).mono ?_; rintro e w' ⟨rfl, hw⟩
  obtain rfl := hw.symm
  clear hw NM
  go_wp2_with fail
  have MSG := fun X (hX : Kp Nu w2 X) => (message_any X k key hi lim 1 v.a o.a v.n v.c o.n o.c has).mono (fun e w' h => (⟨h.1, hX.andNu h.2⟩ : e = .returned (.agg #[.int .u8 k, .int .u64 1, .int .u64 key, .int .u64 hi, .slice v.a v.n v.c, .slice o.a o.n o.c, .bool has, .int .u8 0, .int .u8 0, .int .u8 0, .int .u32 0, .int .u32 0, .int .u64 0, .int .u8 lim, .slice none 0 0, .slice none 0 0, .slice none 0 0]) ∧ Kp Nu w2 w'))
  have SAM := fun X (hX : Kp Nu w2 X) => (sameT X k 1 key hi lim has v1 o1 v o V O ((HV1.out.1.nu hX).ct HX.out.1.by_) ((HV1.out.2.1.nu hX).ct HX.out.2.by_) (HX.out.1.nu (HKW2.out.andNu hX)) (HX.out.2.nu (HKW2.out.andNu hX))).mono (fun e w' h => (⟨h.1, hX.andNu h.2⟩ : e = .returned (.bool true) ∧ Kp Nu w2 w'))
  go_region_held3 (fun X => X.cell? ⟨g, 1, none⟩ = some (.int .u8 k) ∧ X.cell? ⟨g, 2, none⟩ = some (.int .u64 1) ∧ X.cell? ⟨g, 3, none⟩ = some (.int .u64 key) ∧ X.cell? ⟨g, 4, none⟩ = some (.int .u64 hi) ∧ X.cell? ⟨g, 5, none⟩ = some (.slice v1.a v1.n v1.c) ∧ X.cell? ⟨g, 6, none⟩ = some (.slice o1.a o1.n o1.c) ∧ X.cell? ⟨g, 7, none⟩ = some (.bool has) ∧ X.cell? ⟨g, 8, none⟩ = some (.int .u8 0) ∧ X.cell? ⟨g, 9, none⟩ = some (.int .u8 0) ∧ X.cell? ⟨g, 10, none⟩ = some (.int .u8 0) ∧ X.cell? ⟨g, 11, none⟩ = some (.int .u32 0) ∧ X.cell? ⟨g, 12, none⟩ = some (.int .u32 0) ∧ X.cell? ⟨g, 13, none⟩ = some (.int .u64 0) ∧ X.cell? ⟨g, 14, none⟩ = some (.int .u8 lim) ∧ X.cell? ⟨g, 15, none⟩ = some (.slice none 0 0) ∧ X.cell? ⟨g, 16, none⟩ = some (.slice none 0 0) ∧ X.cell? ⟨g, 17, none⟩ = some (.slice none 0 0)
      ∧ X.cell? ⟨w.heap.size, 0, none⟩ = some (.int .u8 k) ∧ X.cell? ⟨w.heap.size, 1, none⟩ = some (.int .u64 key) ∧ X.cell? ⟨w.heap.size, 2, none⟩ = some (.int .u64 hi) ∧ X.cell? ⟨w.heap.size, 3, none⟩ = some (.slice v.a v.n v.c) ∧ X.cell? ⟨w.heap.size, 4, none⟩ = some (.slice o.a o.n o.c) ∧ X.cell? ⟨w.heap.size, 5, none⟩ = some (.bool has) ∧ X.cell? ⟨w.heap.size, 6, none⟩ = some (.int .u8 lim)) (first | (refine hmsg _ ?_; (repeat (first | assumption | exact Kp.refl _ _ | apply Kp.drew)); done)) (first | (go_at_call 38; refine (MSG _ ?_).mono ?_; (repeat (first | assumption | exact Kp.refl _ _ | apply Kp.drew)); rintro e w3 ⟨rfl, hk3⟩) | (go_at_call 29; refine (SAM _ ?_).mono ?_; (first | assumption); rintro e w4 ⟨rfl, hk4⟩))
  have HG4 := hide (box_k HG.out hk4)
  have HZ4 := hide (box_k HZ2.out hk4)
  have HK4 := hide hk4
  clear MSG SAM hmsg hk3 hk4 HG HZ2 g0
  go_wp2_with fail
  have hgz : g ≠ w.heap.size + 1 := by have := HGL.out; omega
  have RG : Hid (w4.drew.rangeAt g 0 [.int .u8 0, .int .u8 k, .int .u64 1, .int .u64 key, .int .u64 hi, .slice v1.a v1.n v1.c, .slice o1.a o1.n o1.c, .bool has, .int .u8 0, .int .u8 0, .int .u8 0, .int .u32 0, .int .u32 0, .int .u64 0, .int .u8 lim, .slice none 0 0, .slice none 0 0, .slice none 0 0]) := hide (range_of (w := w4.drew) (b := g) HG4.out)
  have TZ : Hid (w4.drew.there (w.heap.size + 1) 0 18) := hide (there_of (w := w4.drew) HZ4.out 0 18 (Nat.le_refl _))
  have ONE : Hid ((#[.int .u8 0, .int .u8 k, .int .u64 1, .int .u64 key, .int .u64 hi, .slice v1.a v1.n v1.c, .slice o1.a o1.n o1.c, .bool has, .int .u8 0, .int .u8 0, .int .u8 0, .int .u32 0, .int .u32 0, .int .u64 0, .int .u8 lim, .slice none 0 0, .slice none 0 0, .slice none 0 0] : Array Value).all (·.oneCell') = true) := hide (by simp [Value.oneCell'])
  refine ret8 (fun _ _ _ _ _ h => h) mixed g (w.heap.size + 1) (.pointer (some ⟨b, 0, none⟩)) (.bool true) [.int .u8 0, .int .u8 k, .int .u64 1, .int .u64 key, .int .u64 hi, .slice v1.a v1.n v1.c, .slice o1.a o1.n o1.c, .bool has, .int .u8 0, .int .u8 0, .int .u8 0, .int .u32 0, .int .u32 0, .int .u64 0, .int .u8 lim, .slice none 0 0, .slice none 0 0, .slice none 0 0] rfl rfl rfl rfl rfl rfl RG.out TZ.out ONE.out ?_
  go_frame
  have hw6 := setCells_all w4.drew _ [.int .u8 0, .int .u8 k, .int .u64 1, .int .u64 key, .int .u64 hi, .slice v1.a v1.n v1.c, .slice o1.a o1.n o1.c, .bool has, .int .u8 0, .int .u8 0, .int .u8 0, .int .u32 0, .int .u32 0, .int .u64 0, .int .u8 lim, .slice none 0 0, .slice none 0 0, .slice none 0 0] HZ4.out rfl
  have hk6 := (HK4.out.mono (T := fun i => i = w.heap.size + 1) (fun _ _ h => h.elim)).drew
  have hk6' := hk6.trans (kp_setCells (b := w.heap.size + 1) [.int .u8 0, .int .u8 k, .int .u64 1, .int .u64 key, .int .u64 hi, .slice v1.a v1.n v1.c, .slice o1.a o1.n o1.c, .bool has, .int .u8 0, .int .u8 0, .int .u8 0, .int .u32 0, .int .u32 0, .int .u64 0, .int .u8 lim, .slice none 0 0, .slice none 0 0, .slice none 0 0] 0 w4.drew) (fun _ _ e => e)
  have HW6 : Hid ((w4.drew.setCells (w.heap.size + 1) 0 [.int .u8 0, .int .u8 k, .int .u64 1, .int .u64 key, .int .u64 hi, .slice v1.a v1.n v1.c, .slice o1.a o1.n o1.c, .bool has, .int .u8 0, .int .u8 0, .int .u8 0, .int .u32 0, .int .u32 0, .int .u64 0, .int .u8 lim, .slice none 0 0, .slice none 0 0, .slice none 0 0]).heap[w.heap.size + 1]? = some (.cells (out1 k key hi v1 o1 has lim) 38 (0, 0))) := hw6
  have K26' : Hid (Kp (fun i => i = w.heap.size + 1) w2 (w4.drew.setCells (w.heap.size + 1) 0 [.int .u8 0, .int .u8 k, .int .u64 1, .int .u64 key, .int .u64 hi, .slice v1.a v1.n v1.c, .slice o1.a o1.n o1.c, .bool has, .int .u8 0, .int .u8 0, .int .u8 0, .int .u32 0, .int .u32 0, .int .u64 0, .int .u8 lim, .slice none 0 0, .slice none 0 0, .slice none 0 0])) := hide hk6'
  clear hw6 hk6 hk6' RG TZ ONE
  generalize (w4.drew.setCells (w.heap.size + 1) 0 [.int .u8 0, .int .u8 k, .int .u64 1, .int .u64 key, .int .u64 hi, .slice v1.a v1.n v1.c, .slice o1.a o1.n o1.c, .bool has, .int .u8 0, .int .u8 0, .int .u8 0, .int .u32 0, .int .u32 0, .int .u64 0, .int .u8 lim, .slice none 0 0, .slice none 0 0, .slice none 0 0]) = w6 at HW6 K26' ⊢
  go_wp2
  refine bodyPost_ret (results_tct rfl _ _ ⟨w.heap.size + 1, 0, none⟩ _ rfl (run_loadVar_row w6 (w.heap.size + 1) 38 38 _ (0, 0) _ HW6.out Tryz.underlying38 rfl info38)) rfl ?_
  have hbb := HBL.out
  have K26 : Kp (fun i => i = w.heap.size + 1) w2 w6 := K26'.out
  have hZw2 := HZW.out
  have nb5 : ∀ i, i = w.heap.size + 1 → ∀ c, w2.heap[i]? ≠ some (.cells c 5 (0, 0)) := fun i hi c hx => by rw [hi, hZw2] at hx; simp at hx
  have hcl := HV1.out.2.2
  refine ⟨b, hb, mb, v', o', v1, o1, rfl, ⟨hcl.cb.kp K26 (fun e => by have e' : b = w.heap.size + 1 := e; omega), hcl.am.keep (K26.block _ hcl.am.lt (fun e => by have e' : mb = w.heap.size + 1 := e; omega)), hcl.v.kp K26 nb5, hcl.o.kp K26 nb5, hcl.lv, hcl.lo⟩, HV1.out.1.kp K26 nb5, HV1.out.2.1.kp K26 nb5, by omega, by omega, ⟨_, tb_base (tb_kp HT2.out K26 (tb_ne HT2.out hZw2 (by decide)) (fun i hi c hx => by have hi' : i = w.heap.size + 1 := hi; rw [hi', hZw2] at hx; simp only [Option.some.injEq, Obj.cells.injEq] at hx; exact absurd hx.2.1 (by decide))) (by simp; omega)⟩, HKW2.out.trans K26 (fun i hi e => by have e' : i = w.heap.size + 1 := e; omega)⟩
theorem begun_ok (w : World) (hosts pat tries : Int) (h0 : 1 ≤ hosts) (h1 : hosts ≤ 16) (p0 : 1 ≤ pat) (p1 : pat ≤ 64) (t0 : 1 ≤ tries) (t1 : tries ≤ 64) (k key hi lim : Int) (v o : Sl) (has : Bool) (V O : List Int) (hv : Ct w v V) (ho : Ct w o O) (hB : RqB k key hi lim) (hR : RqOk k key hi v o has lim) :
    Calls Tryz.prog 17 #[.int .i64 hosts, .int .i64 pat, .int .i64 tries, .agg #[.int .u8 k, .int .u64 key, .int .u64 hi, v.val, o.val, .bool has, .int .u8 lim]] w fun e w' => ∃ b hb mb v' o' v1 o1 nb D, e = .returned (.tuple #[.pointer (some ⟨b, 0, none⟩), .agg (out1 k key hi v1 o1 has lim), .bool true]) ∧ Cl w' b (Cs.run hosts pat tries hb mb k key hi v' o' has lim) nb D V O ∧ Bt w' v1 V ∧ Bt w' o1 O ∧ w.heap.size ≤ b ∧ w.heap.size ≤ mb ∧ Kp Nu w w' := by
  refine (begun_tb w hosts pat tries h0 h1 p0 p1 t0 t1 k key hi lim v o has V O hv ho hB hR).mono ?_
  rintro e w' ⟨b, hb, mb, v', o', v1, o1, rfl, hc, hv1, ho1, hb1, hm1, _, hk⟩
  exact ⟨b, hb, mb, v', o', v1, o1, _, _, rfl, hc, hv1, ho1, hb1, hm1, hk⟩
end Go.Proofs.YtmlnglillgplfaaGreat.Cl
