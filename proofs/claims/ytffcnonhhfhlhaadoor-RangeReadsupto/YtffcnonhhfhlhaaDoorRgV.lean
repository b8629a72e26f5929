import Derived.Test.YtffcnonhhfhlhaaDoorRgR
namespace Go.Proofs.YtffcnonhhfhlhaaDoor.Rg
open Go.RowKit Go.Shelf Go.Sort
open Go.Proofs.YtffcnonhhfhlhaaDoor.It
set_option linter.unusedVariables false

/-- what Assign of a step leaves -/
def stp (L : List Sg) (lim : Int) (s : Sp) : List Sg := if s.lo ≤ s.hi ∧ s.h < 16 ∧ (L.length : Int) + costB L s.lo s.hi s.h ≤ lim then asg L s.lo s.hi s.h else L
def cod (L : List Sg) (lim : Int) (s : Sp) : Int := if s.hi < s.lo then 60 else if ¬ s.h < 16 then 2 else if lim < (L.length : Int) + costB L s.lo s.hi s.h then 61 else 0

theorem assign_any {B b : Nat} {w : World} {lim : Int} {v : Value} {L : List Sg} (h : Tb B w b lim v L) (s : Sp) (f : 0 ≤ s.lo ∧ s.lo < 18446744073709551616 ∧ 0 ≤ s.hi ∧ s.hi < 18446744073709551616 ∧ 0 ≤ s.h ∧ s.h < 256) (hBw : B ≤ w.heap.size) :
    Calls Tryd.prog 16 #[.pointer (some ⟨b, 0, none⟩), .int .u64 s.lo, .int .u64 s.hi, .int .u8 s.h] w fun e w' => e = .returned (.int .i64 (cod L lim s)) ∧ ∃ v', Tb B w' b lim v' (stp L lim s) ∧ Kp (fun k => k = b) w w' := by
  unfold cod stp
  by_cases h1 : s.hi < s.lo
  · rw [if_pos h1, if_neg (by omega)]
    refine (assign_bad h s.lo s.hi s.h h1).mono ?_
    rintro e w' ⟨rfl, rfl⟩
    exact ⟨rfl, v, h, Kp.refl _ _⟩
  rw [if_neg h1]
  by_cases h2 : s.h < 16
  · rw [if_neg (fun x => x h2)]
    by_cases h3 : lim < (L.length : Int) + costB L s.lo s.hi s.h
    · rw [if_pos h3, if_neg (by omega)]
      refine (assign_full h s.lo s.hi s.h f.1 (by omega) f.2.2.2.1 h2 h3).mono ?_
      rintro e w' ⟨rfl, hk⟩
      exact ⟨rfl, v, h.nu hk, hk.mono (fun _ _ h => h.elim)⟩
    · rw [if_neg h3, if_pos (by omega)]
      refine (assign_ok h s.lo s.hi s.h f.1 (by omega) f.2.2.2.1 f.2.2.2.2.1 h2 (by omega) hBw).mono ?_
      rintro e w' ⟨rfl, v', hT, hk⟩
      exact ⟨rfl, v', hT, hk⟩
  · rw [if_pos h2, if_neg (by omega)]
    refine (assign_arg h s.lo s.hi s.h (by omega) h2).mono ?_
    rintro e w' ⟨rfl, rfl⟩
    exact ⟨rfl, v, h, Kp.refl _ _⟩

/-- what lay below w0 stands through whatever is done to a table made since -/
theorem SpAt.keep {w0 w w' : World} {B b : Nat} {bs o : Nat} {s : Sp} (h : SpAt w0 bs o s) (k : Kp (fun k => w0.heap.size ≤ k) w0 w) : SpAt w bs o s := by
  have q : ∀ {a : Addr} {u : Value}, w0.cell? a = some u → w.cell? a = some u := fun h =>
    (World.cell?_of_block (k.block _ (World.block_lt_of_cell? w0 _ h) (fun h2 => by
      have := World.block_lt_of_cell? w0 _ h
      have h3 : w0.heap.size ≤ _ := h2
      omega))).trans h
  exact ⟨q h.c0, q h.c1, q h.c2, q h.c3, h.fit⟩

/-- whose a key is, behind steps that are all taken -/
theorem stp_ow {L : List Sg} (h : Tab L) {lim : Int} {s : Sp} (f : 0 ≤ s.lo ∧ s.lo < 18446744073709551616 ∧ 0 ≤ s.hi ∧ s.hi < 18446744073709551616 ∧ 0 ≤ s.h ∧ s.h < 256) (hl : (L.length : Int) + 2 ≤ lim) {k : Int} (k0 : 0 ≤ k) (k1 : k < 18446744073709551616) :
    ow (stp L lim s) k = if (s.lo ≤ s.hi ∧ s.h < 16) ∧ s.lo ≤ k ∧ k ≤ s.hi then s.h else ow L k := by
  unfold stp
  by_cases g : s.lo ≤ s.hi ∧ s.h < 16
  · have c := cost_range h s.h f.1 g.1 f.2.2.2.1
    rw [if_pos ⟨g.1, g.2, by omega⟩]
    obtain ⟨t1, t2, t3⟩ := asg_facts h f.1 g.1 f.2.2.2.1 f.2.2.2.2.1 g.2
    rw [t2 k k0 k1]
    by_cases e : s.lo ≤ k ∧ k ≤ s.hi
    · rw [if_pos e, if_pos ⟨g, e⟩]
    · rw [if_neg e, if_neg (fun x => e x.2)]
  · rw [if_neg (fun x => g ⟨x.1, x.2.1⟩), if_neg (fun x => g x.1)]
theorem stp_len {L : List Sg} (h : Tab L) {lim : Int} {s : Sp} (f : 0 ≤ s.lo ∧ s.lo < 18446744073709551616 ∧ 0 ≤ s.hi ∧ s.hi < 18446744073709551616 ∧ 0 ≤ s.h ∧ s.h < 256) : ((stp L lim s).length : Int) ≤ L.length + 2 := by
  unfold stp
  split
  · rename_i g
    have c := cost_range h s.h f.1 g.1 f.2.2.2.1
    obtain ⟨t1, t2, t3⟩ := asg_facts h f.1 g.1 f.2.2.2.1 f.2.2.2.2.1 g.2.1
    omega
  · omega
theorem stp_code {L : List Sg} (h : Tab L) {lim : Int} {s : Sp} (f : 0 ≤ s.lo ∧ s.lo < 18446744073709551616 ∧ 0 ≤ s.hi ∧ s.hi < 18446744073709551616 ∧ 0 ≤ s.h ∧ s.h < 256) (hl : (L.length : Int) + 2 ≤ lim) : (cod L lim s == 0) = decide (s.lo ≤ s.hi ∧ s.h < 16) := by
  unfold cod
  by_cases g : s.lo ≤ s.hi ∧ s.h < 16
  · have c := cost_range h s.h f.1 g.1 f.2.2.2.1
    rw [if_neg (by omega), if_neg (fun x => x g.2), if_neg (by omega), decide_eq_true g]; rfl
  · rw [decide_eq_false g]
    by_cases e : s.hi < s.lo
    · rw [if_pos e]; rfl
    · rw [if_neg e, if_pos (by omega)]; rfl
/-- a single key's owner owns it -/
theorem owns_one {L : List Sg} (h : Tab L) {k : Int} (k0 : 0 ≤ k) (k1 : k < 18446744073709551616) : ownsB L k k (ow L k) = true := by
  unfold ownsB
  have key : ∀ {L : List Sg} {a b : Int}, Cov a L b → a ≤ k → k < b → (tk k k (L.drop (plc L k))).all (fun s => s.h == ow L k) = true := by
    intro L
    induction L with
    | nil => intro a b h ha hb; have e : a = b := h; omega
    | cons s r ih =>
      intro a b h ha hb
      obtain ⟨h1, h2, h3⟩ := h
      simp only [plc, ow]
      by_cases e : k ≤ s.hi
      · rw [if_pos e, if_pos e]
        simp only [List.drop_zero, tk]
        rw [if_neg (by omega), tk_stop h3 (by omega)]
        simp [cutS]
      · rw [if_neg e, if_neg e]
        simpa using ih h3 (by omega) hb
  exact key h.cov k0 k1
end Go.Proofs.YtffcnonhhfhlhaaDoor.Rg
namespace Go.Proofs.YtffcnonhhfhlhaaDoor.Rg
open Go.RowKit Go.Shelf Go.Sort
open Go.Proofs.YtffcnonhhfhlhaaDoor.It
attribute [local go_sem] Oper.semAt_some
set_option linter.unusedVariables false

/-- a list that grows in a box -/
structure Gl (w V : World) (BX : Nat) (C : List Sg) : Prop where
  box : ∃ u, V.heap[BX]? = some (.cells #[u] 22 (0, 0)) ∧ V.ownsRow w.heap.size 26 3 u C.length (cells C)
theorem Gl.own {w : World} {BX : Nat} (B : Nat) : OwnFrom B (fun p V => Gl w V BX p) := fun p X Z row hs hg hr => by
  obtain ⟨u, h1, h2⟩ := hs.box
  refine ⟨u, own_cells (β := Unit) B _ _ _ _ () X Z row h1 hg hr, own_keep h2 (fun g e => hg.block g (own_lt h2 e) (fun e2 => ?_))⟩
  obtain ⟨_, o, ho, hc⟩ := hr g e2.symm
  obtain ⟨_, c, e3⟩ := own_type h2 e
  rw [e3] at ho; cases ho; cases hc
theorem Gl.nu {w V V' : World} {BX : Nat} {C : List Sg} (h : Gl w V BX C) (k : Kp Nu V V') : Gl w V' BX C := by
  obtain ⟨u, h1, h2⟩ := h.box
  exact ⟨u, (k.block _ (blk_lt h1) (fun h => h)).trans h1, own_keep h2 (fun g e => k.block g (own_lt h2 e) (fun h => h))⟩

set_option maxRecDepth 100000 in
set_option maxHeartbeats 1000000 in
theorem appendSeq_any (w : World) (Bn r off cap : Nat) (M : List Sg) (cur : Array Value) (hM : M.length ≤ 8192) (hrow : Row cur off M) (hbn : w.heap[Bn]? = some (.cells #[.slice (some ⟨r, off, none⟩) M.length cap] 22 (0, 0))) (hr : w.heap[r]? = some (.cells cur 26 (0, 0))) :
    Calls Tryd.prog 75 #[.slice none 0 0, .func (.func 73) #[] #[.pointer (some ⟨Bn, 0, none⟩)]] w fun e w' => ∃ u, e = .returned u ∧ w'.ownsRow w.heap.size 26 3 u M.length (cells M) ∧ Kp Nu w w' := by
  obtain ⟨i0, hi0, hz0, hz1, hz2⟩ := info_parts info40
  have KA := Kp.alloc w (.cells #[.slice none 0 0] 22) Nu
  have b0 : (w.alloc (.cells #[.slice none 0 0] 22)).heap[w.heap.size]? = some (.cells #[.slice none 0 0] 22 (0, 0)) := heap_alloc_new w _
  have hrw : r < w.heap.size := blk_lt hr
  have SQ : SeqO Tryd.prog 73 #[.pointer (some ⟨Bn, 0, none⟩)] (fun x : Sg => #[enc x]) (fun k _ => k = r) (fun ys => ys = M) (fun pre => pre <+: M) M.length (w.alloc (.cells #[.slice none 0 0] 22)) :=
    SeqO.of_stops fun n => from_stops n Bn r off cap M cur hM hrow _ ((KA.block _ (blk_lt hbn) (fun h => h)).trans hbn) ((KA.block _ hrw (fun h => h)).trans hr)
  have L0 : Gl w (w.alloc (.cells #[.slice none 0 0] 22)) w.heap.size [] := ⟨_, b0, ⟨rfl, .inl ⟨rfl, rfl⟩⟩⟩
  have hb0 : Below w.heap.size w (w.alloc (.cells #[.slice none 0 0] 22)) := KA.toBelow
  have hs0 : w.heap.size ≤ (w.alloc (.cells #[.slice none 0 0] 22)).heap.size := hb0.size
  refine (callsIn_wide (n := 4)).1 ?_
  refine callsIn_of_wp_marks Tryd.func75 rfl trivial ?_ rfl
  simp only [Tryd.ntmps75, List.size_toArray, List.length_cons, List.length_nil, Nat.reduceAdd, Nat.reduceSub, Array.replicate_succ, Array.replicate_zero, List.push_toArray, List.append_toArray, List.nil_append, List.cons_append]
  clear hbn hr hrow b0 KA
  gi_wp2_with fail
  generalize w.alloc (.cells #[.slice none 0 0] 22) = w1 at SQ L0 hb0 hs0 ⊢
  refine range_o (gf := 73) rfl (enters_of Tryd.func73 (by kernel_rfl) rfl) SQ (Below.refl _ _) (fun _ => rfl)
    (fun pre V => Gl w V w.heap.size pre ∧ Below w.heap.size w V) (fun _ _ _ => False)
    (OwnFrom.and (Gl.own _) (ownFrom_below (Nat.le_refl _) hs0)) (fun _ _ _ _ _ hs _ _ => hs) ⟨L0, hb0⟩
    (fun x a' V => ∃ Bx, V.heap[Bx]? = some (.cells #[.int .u64 x.lo, .int .u64 x.hi, .int .u8 x.h] 26 (0, 0)) ∧ a' = { tmps := #[.slice none 0 0, .func (.func 73) #[] #[.pointer (some ⟨Bn, 0, none⟩)], .pointer (some ⟨w.heap.size, 0, none⟩), undef, .slice none 0 0, .pointer (some ⟨Bx, 0, none⟩), .func (.func 73) #[] #[.pointer (some ⟨Bn, 0, none⟩)], enc x, undef, undef, undef, undef, undef], defers := [] })
    (fun x a' _ X Z row hs hg hr => by
      obtain ⟨Bx, h1, h2⟩ := hs
      exact ⟨Bx, own_cells (β := Unit) w1.heap.size Bx _ _ _ () X Z row h1 hg hr, h2⟩)
    ?assign1 ?body1 ?done1 (fun _ _ _ _ _ _ h _ => h.elim)
  case assign1 =>
    rintro l' pre x V K ⟨hLp, hB1⟩ hK
    simp only [enc]
    have kV := Kp.alloc V (.cells #[.int .u64 x.lo, .int .u64 x.hi, .int .u8 x.h] 26) Nu
    have HZ := hide (And.intro (hLp.nu kV) kV)
    clear hLp kV
    gi_wp2
    obtain ⟨f1, kV⟩ := HZ.out
    exact hK _ _ (kf_nu _ kV) (kc_nu kV) ⟨f1, hB1.alloc hB1.size _⟩ ⟨V.heap.size, heap_alloc_new V _, rfl⟩
  case body1 =>
    rintro l' pre x a' V hl' hq ⟨⟨u, b1, b2⟩, hB1⟩ ⟨Bx, hX, rfl⟩ hlt
    obtain ⟨a0, a1, a2⟩ := cell3 hX
    obtain ⟨adu, cpu, hu⟩ := own_slice b2
    have c1 := cell1 b1
    have hVs := hB1.size
    have KV := Kp.alloc V (.cells #[.int .u64 x.lo, .int .u64 x.hi, .int .u8 x.h] 26) Nu
    have HR := hide (b2.alloc (.cells #[.int .u64 x.lo, .int .u64 x.hi, .int .u8 x.h] 26))
    have b1' := (KV.block _ (blk_lt b1) (fun h => h)).trans b1
    have HBB := hide (And.intro b1' (And.intro b2 (And.intro b1 KV)))
    generalize hpl : pre.length = PL at *
    have HPL := hide hpl
    subst hu
    clear b1 b2 hX hl' hq SQ L0 b1' KV hpl
    gi_wp2_with (first
      | (gi_at_builtin; refine wpListIn_append_own _ rfl _ _ 22 rfl w.heap.size 26 i0 (.agg #[.int .u64 0, .int .u64 0, .int .u8 0]) 3 24 Tryd.underlying22 hi0 hz0 hz1 hz2 rfl (by decide) _ _ _ rfl HR.out ⟨V.heap.size, 0, none⟩ 1 1 [.int .u64 x.lo, .int .u64 x.hi, .int .u8 x.h] rfl rfl (cell_three_new _ _ _ _ _) (by simp [Value.oneCell']) (by unfold maxLen; omega) (by omega) (by simp; omega) ?_; intro v' w3 hown' hg3 hnil3; obtain ⟨ad3, cp3, ev3⟩ := own_slice hown'; have HO := hide hown'; have HG3 := hide hg3; have q1 : w3.heap[w.heap.size]? = some (.cells #[.slice adu PL cpu] 22 (0, 0)) := (hg3.block _ (blk_lt HBB.out.1) (fun e => (by obtain ⟨_, c, e3⟩ := own_type HR.out e.symm; rw [HBB.out.1] at e3; cases e3))).trans HBB.out.1; have d1 := cell1 q1; have d2 := free3 q1 0; have HQ1 := hide q1; subst ev3; clear hown' hg3 hnil3 q1)
      | fail)
    gi_wp2
    have hkk : Kp (fun k => some k = (Value.slice adu PL cpu).ownBlock) V w3 := (HBB.out.2.2.2.mono (fun _ _ h => h.elim)).trans (Kp.of_grown HG3.out) (fun _ _ h => h)
    have hl2 : (pre ++ [x]).length = PL + 1 := by rw [← HPL.out]; simp
    have ho2 : w3.ownsRow w.heap.size 26 3 (.slice ad3 (PL + 1) cp3) (pre ++ [x]).length (cells (pre ++ [x])) := by
      rw [hl2, cells_append]
      exact HO.out
    obtain ⟨_, q2, q3, q4, q5⟩ := mid_step HBB.out.2.2.1 HBB.out.2.1 (Nat.le_refl _) hkk ho2 hB1
    exact ⟨kf_mono q4 hs0, fun k c t m hk e => by
      have hk2 : k = r := hk
      subst hk2
      exact (q5.block _ hrw).trans ((hB1.block _ hrw).symm.trans e), ⟨_, q2, q3⟩, q5⟩
  case done1 =>
    rintro D ys V hD rfl ⟨⟨u, b1, b2⟩, hB1⟩ hK
    have c1 := cell1 b1
    obtain ⟨adu, cpu, hu⟩ := own_slice b2
    have HF : Hid ((V.putObj D (.deferred none)).ownsRow w.heap.size 26 3 u ys.length (cells ys) ∧ Kp Nu w (V.putObj D (.deferred none))) := by
      refine ⟨own_keep b2 (fun g e => World.putObj_heap_other (fun e2 => ?_)), Kp.of_below (hB1.trans (belowK_b (w := w) (Nat.le_refl _) V D _ _ (Nat.le_trans hs0 hD) hK rfl rfl))⟩
      obtain ⟨_, c, e3⟩ := own_type b2 e
      subst e2
      rw [hK] at e3; cases e3
    subst hu
    clear b1 b2 SQ L0
    gi_wp2
    refine ⟨by simp, .inl ⟨_, _, rfl, run_takeDeferred hK, ?_⟩⟩
    refine ⟨.slice adu ys.length cpu, ?_, _, rfl, HF.out⟩
    simp [results, Tryd.results75, go_sem]

set_option maxHeartbeats 1000000 in
theorem list_any {B b : Nat} {w : World} {lim : Int} {v : Value} {L : List Sg} (h : Tb B w b lim v L) :
    Calls Tryd.prog 25 #[.pointer (some ⟨b, 0, none⟩)] w fun e w' => ∃ u, e = .returned u ∧ w'.ownsRow w.heap.size 26 3 u L.length (cells L) ∧ Kp Nu w w' := by
  have FR := from_any h 0 (by omega) (by omega)
  rw [plc_first h.tab.cov] at FR
  simp only [List.drop_zero, Nat.zero_mul] at FR
  have hl : L.length ≤ 8192 := by have := h.len; have := h.lim1; omega
  have AL : Calls Tryd.prog 15 #[.pointer (some ⟨b, 0, none⟩)] w fun e w' => ∃ Bn r cap, e = .returned (.func (.func 73) #[] #[.pointer (some ⟨Bn, 0, none⟩)]) ∧ w'.heap[Bn]? = some (.cells #[.slice (some ⟨r, 0, none⟩) L.length cap] 22 (0, 0)) ∧ v.ownBlock = some r ∧ Kp Nu w w' := by
    go_enter Tryd.func15, Tryd.ntmps15
    go_wp2_with (go_at_call 44; refine FR.mono ?_; rintro e w' ⟨Bn, r, cap, rfl, h1, h2, h3, h4⟩)
    go_ret
    exact ⟨Bn, r, cap, rfl, h2, h3, h4⟩
  have CO : ∀ w2 Bn r cap, w2.heap[Bn]? = some (.cells #[.slice (some ⟨r, 0, none⟩) L.length cap] 22 (0, 0)) → v.ownBlock = some r → Kp Nu w w2 → Calls Tryd.prog 55 #[.func (.func 73) #[] #[.pointer (some ⟨Bn, 0, none⟩)]] w2 fun e w' => ∃ u, e = .returned u ∧ w'.ownsRow w.heap.size 26 3 u L.length (cells L) ∧ Kp Nu w w' := fun w2 Bn r cap hb hr hk => by
    obtain ⟨cur, hcur, hrow⟩ := (h.nu hk).cur hr
    have AP := appendSeq_any w2 Bn r 0 cap L cur hl hrow hb hcur
    go_enter Tryd.func55, Tryd.ntmps55
    go_wp2_with (go_at_call 75; refine AP.mono ?_; rintro e w' ⟨u, rfl, h1, h2⟩)
    go_ret
    exact ⟨u, rfl, own_base h1 hk.size, hk.andNu h2⟩
  clear FR
  go_enter Tryd.func25, Tryd.ntmps25
  go_wp2_with fail
  refine AL.mono ?_; rintro e w2 ⟨Bn, r, cap, rfl, h1, h2, h3⟩
  have CO1 := CO w2 Bn r cap h1 h2 h3
  clear AL CO h1
  go_wp2_with fail
  refine CO1.mono ?_; rintro e w3 ⟨u, rfl, h4, h5⟩
  obtain ⟨adu, cpu, hu⟩ := own_slice h4
  have HF := hide (And.intro h4 h5)
  subst hu
  clear CO1 h4 h5
  go_wp2
  go_ret
  exact ⟨_, rfl, HF.out⟩
end Go.Proofs.YtffcnonhhfhlhaaDoor.Rg
