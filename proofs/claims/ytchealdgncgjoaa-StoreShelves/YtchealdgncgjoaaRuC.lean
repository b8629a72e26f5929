import Derived.Test.YtchealdgncgjoaaRuB
import Derived.Deep.AppendLies
import Derived.BigQuiet
import Derived.Deep.QuietTactic
import Derived.Deep.RegionHeld3
namespace Go.Proofs.Ytchealdgncgjoaa.StU
open Go.RowKit Go.Proofs.Ytchealdgncgjoaa.St Go.Shelf
set_option linter.unusedVariables false
set_option linter.unusedSimpArgs false
theorem Bi.cast {P : World → Nat → Sv → List Int → Prop} {e : TypeId} {B : Nat} {W : World} {u : Sv} {L : List (Int × Sv)} {A A' : List KV} (h : Bi P e B W u L A) (ha : A = A') : Bi P e B W u L A' := ha ▸ h
theorem take_snoc {A : List KV} {i : Nat} {m : KV} (h : A[i]? = some m) : A.take i ++ [m] = A.take (i + 1) := by rw [List.take_add_one, h]; rfl
theorem Bi.mo {B : Nat} {W : World} {u : Sv} {g cap : Nat} {L : List (Int × Sv)} {A : List KV} (f : F2 (fun p m => p.1 = m.1 ∧ Rm W B p.2 m.2) L A) (ap : L.Pairwise (fun p q => ∀ g, (sl p.2).ownBlock = some g → (sl q.2).ownBlock ≠ some g))
    (own : W.ownsRow B 78 2 (.slice (some ⟨g, 0, none⟩) (A.length + 1) cap) (A.length + 1) (pc L ++ [.int .u64 4713, .slice none 0 0])) : Mo g cap L A W (fun i => B ≤ i) :=
  ⟨by rw [pc_snoc]; exact own_base own (Nat.zero_le _), f.imp (fun p m hf => ⟨hf.1, vl_rm.low hf.2 (Nat.zero_le _)⟩), ap, own_low own rfl, fun p hp i hi => by
    obtain ⟨j, hj⟩ := List.mem_iff_getElem?.1 hp
    obtain ⟨m, _, hf⟩ := f.at hj
    exact vl_rm.lo hf.2 hi⟩
theorem Bi.to {B : Nat} {W : World} {u : Sv} {L : List (Int × Sv)} {A : List KV} (h : Bi Rn 196 B W u L A) : To u L A W (fun i => B ≤ i) :=
  ⟨own_base h.own (Nat.zero_le _), h.f.imp (fun p m hf => ⟨hf.1, vl_rn.low hf.2 (Nat.zero_le _)⟩), fun i hi => own_low h.own hi, fun p hp i hi => by
    obtain ⟨j, hj⟩ := List.mem_iff_getElem?.1 hp
    obtain ⟨m, _, hf⟩ := h.f.at hj
    exact vl_rn.lo hf.2 hi⟩
theorem Bi.fin {B : Nat} {V W w6 : World} {u : Sv} {g cap N : Nat} {L : List (Int × Sv)} {A : List KV} (h : Bi Rm 78 B V u L A) (k : Kp Nu V W) (hN : A.length = N)
    (hown : w6.ownsRow B 78 2 (.slice (some ⟨g, 0, none⟩) (N + 1) cap) (N + 1) (pc L ++ [.int .u64 4713, .slice none 0 0])) (hg : Kp (fun i => some i = (Value.slice u.a u.n u.c).ownBlock) W w6) : Mo g cap L A w6 (fun i => B ≤ i) := by
  subst hN
  have hw := h.nu vl_rm k
  refine Bi.mo (u := u) (hw.f.imp (fun p m hf => ⟨hf.1, vl_rm.keep hf.2 (fun i hi => ?_)⟩)) h.ap hown
  obtain ⟨cur, hc⟩ := vl_rm.obj hf.2 hi
  refine hg.block i (blk_lt hc) (fun e1 => ?_)
  obtain ⟨cur2, h2⟩ := own_obj hw.own e1.symm
  rw [h2] at hc; cases hc
section
variable {W0 w : World} {col : Nat → Nat} {c d : Nat} {a b : Value} {o : Om}
set_option maxRecDepth 100000 in
set_option maxHeartbeats 16000000 in
theorem lays146 (hnm : c ≠ 0 ∧ d ≠ 0 ∧ c < 5 ∧ d < 5 ∧ c ≠ d) (hB : Bz W0 w col) (hP : Ps w a (Co col c) o) (hD : Ds w b (Co col d) o) (os lo hi n : Int) (val prs : Value) (S : List Pg) (hS : Wp W0 prs S) (hA : AOk (S.map kv)) :
    Calls Try.prog 146 #[a, b, .agg #[.int .i64 8, .int .i64 os, .int .u64 lo, .int .u64 hi, .int .i64 n, val, prs]] w fun e w' => e = .returned (.bool true) ∧ Hid (Nx W0 c d a b w col w') := by
  have mixed : Try.prog.follows .mixedOrders = true := by kernel_rfl
  obtain ⟨i78, hi78, hx0, hx1, hx2⟩ := info_parts info78s
  obtain ⟨i1, hi0, hz0, hz1, hz2⟩ := info_parts info196
  obtain ⟨pa, pcap, rfl, hS⟩ := hS
  obtain ⟨N, eN⟩ : ∃ N, S.length = N := ⟨_, rfl⟩
  rw [eN]
  have HS1 := hide (Sx.start hnm hB hP hD #[.int .i64 8, .int .i64 os, .int .u64 lo, .int .u64 hi, .int .i64 n, val, .slice pa N pcap])
  have HP := hide hS
  have HN : Hid (N ≤ 4398046510976) := hide (by have := hA.1; rw [List.length_map] at this; omega)
  have HH := hide (And.intro eN hA)
  clear hB hP hD hnm hS hA eN
  go_enter Try.func146, Try.ntmps146
  go_wp2_with fail
  generalize hB2 : w.alloc (.cells #[.int .i64 8, .int .i64 os, .int .u64 lo, .int .u64 hi, .int .i64 n, val, .slice pa N pcap] 121) = W1 at *
  clear hB2
  obtain ⟨bb, eb⟩ : ∃ bb, w.heap.size = bb := ⟨_, rfl⟩
  rw [eb] at HS1 ⊢
  clear eb
  have HB : Hid (∀ W, Kp Nu W1 W → W.cell? ⟨bb, 6, none⟩ = some (.slice pa N pcap)) := hide (fun W k => (box7 ((HS1.out.nu k).box 0 rfl)).2.2.2.2.2.2)
  have q6 := HB.out W1 (Kp.refl _ _)
  go_wp2_with fail
  go_loopw [7, 8, 10] (fun mv tv it wr => ∃ (i : Nat) (u v : Sv), it = .int .i64 (i : Int) ∧ mv = .slice u.a i u.c ∧ tv = .slice v.a i v.c ∧ i ≤ N ∧ Hid (u.n = i ∧ v.n = i ∧ (∃ L, Bi Rm 78 W1.heap.size wr u L ((S.map kv).take i)) ∧ (∃ L', Bi Rn 196 W1.heap.size wr v L' ((S.map kv).take i)) ∧ Kp Nu W1 wr)) (fun _ _ it _ => N - (intOf it).toNat)
  case atStart => exact ⟨0, ⟨none, 0, 0⟩, ⟨none, 0, 0⟩, rfl, rfl, rfl, Nat.zero_le _, rfl, rfl, ⟨[], Bi.nil rfl⟩, ⟨[], Bi.nil rfl⟩, Kp.refl _ _⟩
  case round =>
    clear q6
    obtain ⟨i, ⟨ua, un, uc⟩, ⟨va, vn, vc⟩, rfl, rfl, rfl, hiN, HI⟩ := hrel
    by_cases hlt : i < N
    · obtain ⟨s, hs⟩ : ∃ s, S[i]? = some s := ⟨_, List.getElem?_eq_getElem (by rw [HH.out.1]; exact hlt)⟩
      obtain ⟨b1, off, rfl, p0, p1, prd, pby, pk0, pk1, _⟩ := HP.out i s hs
      have hsA : (S.map kv)[i]? = some (s.k, s.ys) := by rw [List.getElem?_map, hs]; rfl
      have hsl : s.ys.length ≤ 140737488351232 := (HH.out.2.2 _ (List.mem_of_getElem? hsA)).2.2.2
      have hltI : (i : Int) < (N : Int) := by omega
      have hi00 : (0 : Int) ≤ (i : Int) := by omega
      have hwi : wrap64 ((i : Int) + 1) = ((i + 1 : Nat) : Int) := by have := HN.out; unfold wrap64; omega
      have hbase : Kp Nu W0 wr := HS1.out.base.andNu HI.out.2.2.2.2
      have HD : Hid (∀ W, Kp Nu W1 W → W.cell? ⟨bb, 6, none⟩ = some (.slice (some ⟨b1, off, none⟩) N pcap) ∧ W.cell? ⟨b1, off + i * 2, none⟩ = some (.int .u64 s.k) ∧ W.cell? ⟨b1, off + i * 2 + 1, none⟩ = some (.slice s.v.a s.v.n s.v.c)) := hide (fun W k => ⟨HB.out W k, cell_nu p0 (HS1.out.base.andNu k), cell_nu p1 (HS1.out.base.andNu k)⟩)
      have RC : ∀ W, Kp Nu wr W → Calls Try.prog 136 #[.slice s.v.a s.v.n s.v.c] W fun e w' => ∃ q : Sv, e = .returned (.slice q.a q.n q.c) ∧ Hid (Rm w' wr.heap.size q s.ys) ∧ Kp Nu wr w' := fun W k => by
        refine (roomy136 W _ s.ys (prd.nu (hbase.andNu k)) (by omega)).mono ?_
        rintro e w' ⟨q, e1, e2, e3⟩
        exact ⟨q, e1, vl_rm.low e2 k.size, k.andNu e3⟩
      have CC : ∀ {X : World}, Kp Nu W1 X → ∀ W, Kp Nu X W → Calls Try.prog 48 #[.slice s.v.a s.v.n s.v.c] W fun e w' => ∃ q : Sv, e = .returned (.slice q.a q.n q.c) ∧ Hid (Rn w' X.heap.size q s.ys) ∧ Kp Nu X w' := fun {X} kX W k => by
        refine (clone48 W _ s.ys (prd.nu ((HS1.out.base.andNu kX).andNu k)) (by omega)).mono ?_
        rintro e w' ⟨q, e1, e2, e3⟩
        have hn : q.n = s.ys.length := by
          obtain ⟨ad, cp, e⟩ := own_slice e2
          exact (Value.slice.inj e).2.1
        exact ⟨q, e1, ⟨hn, own_base (by rw [hn]; exact e2) k.size⟩, k.andNu e3⟩
      have HW := hide (And.intro hlt (And.intro hwi hsA))
      obtain ⟨sk, ⟨sa, sn, sc⟩, sy⟩ := s
      simp only at HD RC CC HW
      have HO : Hid (∀ W, Kp Nu wr W → ∃ L, Bi Rm 78 W1.heap.size W ⟨ua, i, uc⟩ L ((S.map kv).take i)) := hide (fun W k => by
        obtain ⟨e1, _, ⟨L, h⟩, _⟩ := HI.out
        simp only at e1
        subst e1
        exact ⟨L, h.nu vl_rm k⟩)
      have HV : Hid (∃ L', Bi Rn 196 W1.heap.size wr ⟨va, i, vc⟩ L' ((S.map kv).take i)) := hide (by
        obtain ⟨_, e1, _, h, _⟩ := HI.out
        simp only at e1
        subst e1
        exact h)
      have HK := hide HI.out.2.2.2.2
      obtain ⟨L, hL⟩ := HO.out wr (Kp.refl _ _)
      have HOL : Hid (∀ W, Kp Nu wr W → W.ownsRow W1.heap.size 78 2 (.slice ua i uc) i (pc L)) := hide (fun W k => (hL.nu vl_rm k).own)
      have HL := hide hL
      obtain ⟨c0, c1, c2⟩ := HD.out wr HK.out
      clear hs p0 p1 prd pby pk0 pk1 hsA hsl hbase hlt hwi hiN HI HO hL
      go_wp2_with fail
      go_region_held3 (fun W => W.cell? ⟨bb, 6, none⟩ = some (.slice (some ⟨b1, off, none⟩) N pcap) ∧ W.cell? ⟨b1, off + i * 2, none⟩ = some (.int .u64 sk) ∧ W.cell? ⟨b1, off + i * 2 + 1, none⟩ = some (.slice sa sn sc)) (first | (refine HD.out _ ?_; first | assumption | exact Kp.drew HK.out | exact HK.out.andNu kr3 | exact HK.out.andNu (kr3.andNu (Kp.alloc _ _ _))))
        (first
          | (go_at_call 136; refine (RC _ (Kp.drew (Kp.refl Nu wr))).mono ?_; rintro e w3 ⟨⟨qa, qn, qc⟩, rfl, hq3, kr3⟩)
          | (refine step_append_lies _ ?x0 (.tmp 24) (.tmp 39) 68 ?x1 W1.heap.size 78 i78 (.agg #[.int .u64 0, .slice none 0 0]) 2 32 Try.underlying68 hi78 hx0 hx1 hx2 rfl (by decide) (.slice ua i uc) i (pc L) ?x2 (HOL.out _ (kr3.andNu (Kp.alloc _ _ _))) ⟨w3.heap.size, 0, none⟩ 1 1 [.int .u64 sk, .slice qa qn qc] ?x3 rfl (cells_two_new _ _ _ _) (by intro x hx; simp at hx; rcases hx with rfl | rfl <;> rfl) (by decide) (by have := HN.out; unfold maxLen; omega) (by have := HN.out; omega) (by have := (HK.out.andNu kr3).size; simp; omega) _ rfl ?x4; (case x0 => rfl); (case x1 => rfl); (case x2 => rfl); (case x3 => rfl); intro g gc w6 hown hgrow hlie hglt; have k6 : Kp Nu W1 w6 := (HK.out.andNu (kr3.andNu (Kp.alloc _ _ _))).trans (Kp.of_grown hgrow) (fun j hj e => by have := own_low (HOL.out _ (Kp.refl _ _)) e.symm; omega)))
      have kr4 : Kp Nu wr (w3.alloc (.cells #[.int .u64 sk, .slice qa qn qc] 78)) := kr3.andNu (Kp.alloc _ _ _)
      have HM6 : Hid (Bi Rm 78 W1.heap.size w6 ⟨some ⟨g, 0, none⟩, i + 1, gc⟩ (L ++ [(sk, ⟨qa, qn, qc⟩)]) ((S.map kv).take (i + 1))) := hide ((Bi.app vl_rm (by decide) HL.out HK.out.size kr4 (q := ⟨qa, qn, qc⟩) (ys := sy) (k1 := sk) (hq3.out.nu (Kp.alloc _ _ _)) (u' := ⟨some ⟨g, 0, none⟩, i + 1, gc⟩) hown (Kp.of_grown hgrow)).cast (take_snoc HW.out.2.2))
      have HV6 : Hid (∃ L', Bi Rn 196 W1.heap.size w6 ⟨va, i, vc⟩ L' ((S.map kv).take i)) := hide (by
        obtain ⟨L', h⟩ := HV.out
        refine ⟨L', (h.nu vl_rn kr4).keep vl_rn (Kp.of_grown hgrow) (fun j cc e => ?_)⟩
        obtain ⟨cur, hc⟩ := own_obj (HOL.out _ kr4) e.symm
        rw [hc]
        constructor <;> (intro e2; cases e2))
      obtain ⟨L', hL'⟩ := HV6.out
      have HOT : Hid (∀ W, Kp Nu w6 W → W.ownsRow W1.heap.size 196 2 (.slice va i vc) i (pc L')) := hide (fun W k => (hL'.nu vl_rn k).own)
      have HLT := hide hL'
      have HK6 := hide k6
      clear hown hgrow hlie hglt hq3 kr3 kr4 c0 c1 c2 HOL HV HV6 hL' RC
      obtain ⟨c0, c1, c2⟩ := HD.out w6 HK6.out
      go_wp2_with fail
      go_region_held3 (fun W => W.cell? ⟨bb, 6, none⟩ = some (.slice (some ⟨b1, off, none⟩) N pcap) ∧ W.cell? ⟨b1, off + i * 2, none⟩ = some (.int .u64 sk) ∧ W.cell? ⟨b1, off + i * 2 + 1, none⟩ = some (.slice sa sn sc)) (first | (refine HD.out _ ?_; first | assumption | exact Kp.drew HK6.out | exact HK6.out.andNu kr7 | exact HK6.out.andNu (kr7.andNu (Kp.alloc _ _ _))))
        (first
          | (go_at_call 48; refine (CC HK6.out _ (Kp.drew (Kp.refl Nu w6))).mono ?_; rintro e w7 ⟨⟨ra, rn, rc⟩, rfl, hq7, kr7⟩)
          | (refine step_append_lies _ ?y0 (.tmp 41) (.tmp 56) 123 ?y1 W1.heap.size 196 i1 (.agg #[.int .u64 0, .slice none 0 0]) 2 32 Try.underlying123 hi0 hz0 hz1 hz2 rfl (by decide) (.slice va i vc) i (pc L') ?y2 (HOT.out _ (kr7.andNu (Kp.alloc _ _ _))) ⟨w7.heap.size, 0, none⟩ 1 1 [.int .u64 sk, .slice ra rn rc] ?y3 rfl (cells_two_new _ _ _ _) (by intro x hx; simp at hx; rcases hx with rfl | rfl <;> rfl) (by decide) (by have := HN.out; unfold maxLen; omega) (by have := HN.out; omega) (by have := (HK6.out.andNu kr7).size; simp; omega) _ rfl ?y4; (case y0 => rfl); (case y1 => rfl); (case y2 => rfl); (case y3 => rfl); intro g2 gc2 w9 hown hgrow hlie hglt; have k9 : Kp Nu W1 w9 := (HK6.out.andNu (kr7.andNu (Kp.alloc _ _ _))).trans (Kp.of_grown hgrow) (fun j hj e => by have := own_low (HOT.out _ (Kp.refl _ _)) e.symm; omega)))
      have kr8 : Kp Nu w6 (w7.alloc (.cells #[.int .u64 sk, .slice ra rn rc] 196)) := kr7.andNu (Kp.alloc _ _ _)
      have HF : Hid ((∃ L, Bi Rm 78 W1.heap.size w9 ⟨some ⟨g, 0, none⟩, i + 1, gc⟩ L ((S.map kv).take (i + 1))) ∧ (∃ L', Bi Rn 196 W1.heap.size w9 ⟨some ⟨g2, 0, none⟩, i + 1, gc2⟩ L' ((S.map kv).take (i + 1))) ∧ Kp Nu W1 w9) := hide (by
        refine ⟨⟨_, (HM6.out.nu vl_rm kr8).keep vl_rm (Kp.of_grown hgrow) (fun j cc e => ?_)⟩, ⟨_, (Bi.app vl_rn (by decide) HLT.out HK6.out.size kr8 (q := ⟨ra, rn, rc⟩) (ys := sy) (k1 := sk) (vl_rn.keep hq7.out (fun g hg => by
          obtain ⟨cur, hc⟩ := vl_rn.obj hq7.out hg
          exact (Kp.alloc w7 _ Nu).block g (blk_lt hc) (fun e => e))) (u' := ⟨some ⟨g2, 0, none⟩, i + 1, gc2⟩) hown (Kp.of_grown hgrow)).cast (take_snoc HW.out.2.2)⟩, k9⟩
        obtain ⟨cur, hc⟩ := own_obj (HOT.out _ kr8) e.symm
        rw [hc]
        constructor <;> (intro e2; cases e2))
      clear hown hgrow hlie hglt hq7 kr7 kr8 c0 c1 c2 HOT CC HD HM6 HLT HK6 k9 k6 mixed
      go_wp2_with fail
      rw [HW.out.2.1]
      exact ⟨⟨i + 1, ⟨some ⟨g, 0, none⟩, i + 1, gc⟩, ⟨some ⟨g2, 0, none⟩, i + 1, gc2⟩, rfl, rfl, rfl, HW.out.1, rfl, rfl, HF.out.1, HF.out.2.1, HF.out.2.2⟩, lt_mi rfl HW.out.1⟩
    · obtain rfl : i = N := by omega
      have hnl : ¬ (i : Int) < (i : Int) := by omega
      obtain ⟨e1, e2, ⟨L, hL⟩, ⟨L', hL'⟩, kw⟩ := HI.out
      simp only at e1 e2
      have HAl : Hid ((S.map kv).length = i) := hide (by rw [List.length_map]; exact HH.out.1)
      have hAt : (S.map kv).take i = S.map kv := List.take_of_length_le (by rw [HAl.out]; exact Nat.le_refl _)
      rw [hAt] at hL hL'
      have HL : Hid (Bi Rm 78 W1.heap.size wr ⟨ua, i, uc⟩ L (S.map kv)) := hide (by rw [e1] at hL; exact hL)
      have HT : Hid (Bi Rn 196 W1.heap.size wr ⟨va, i, vc⟩ L' (S.map kv)) := hide (by rw [e2] at hL'; exact hL')
      have HK := hide kw
      have HO : Hid (∀ W, Kp Nu wr W → W.ownsRow W1.heap.size 78 2 (.slice ua i uc) i (pc L)) := hide (fun W k => (HL.out.nu vl_rm k).own)
      have HA := hide HH.out.2
      clear hlt hiN mixed e1 e2 hL hL' kw hAt HI hnl
      go_wp2_with (at_builtin; refine wpList_append_own _ rfl _ _ 68 rfl W1.heap.size 78 i78 _ 2 32 Try.underlying68 hi78 hx0 hx1 hx2 rfl (by decide) _ i _ rfl (HO.out _ (Kp.alloc _ _ _)) ⟨wr.heap.size, 0, none⟩ 1 1 [.int .u64 4713, .slice none 0 0] rfl ?z1 ?z2 ?z3 ?z4 ?z5 ?z6 ?_)
      case z1 => rfl
      case z2 => exact cells_two_new _ _ _ _
      case z3 => intro x hx; simp at hx; rcases hx with rfl | rfl <;> rfl
      case z4 => have := HN.out; unfold maxLen; omega
      case z5 => have := HN.out; omega
      case z6 => have := HK.out.size; simp; omega
      intro v' w6 hown hgrow hnil
      obtain ⟨g, cap, rfl, hg0, _⟩ := hown.form (by omega)
      have k6 : Kp Nu W1 w6 := (HK.out.andNu (Kp.alloc _ _ _)).trans (Kp.of_grown hgrow) (fun j hj e => by have := own_low (HO.out _ (Kp.refl _ _)) e.symm; omega)
      have hM : Mo g cap L (S.map kv) w6 (fun i => W1.heap.size ≤ i) := HL.out.fin (Kp.alloc _ _ Nu) HAl.out hown (Kp.of_grown hgrow)
      have hT : To ⟨va, i, vc⟩ L' (S.map kv) w6 (fun i => W1.heap.size ≤ i) := ((HT.out.nu vl_rn (Kp.alloc _ _ Nu)).keep vl_rn (Kp.of_grown hgrow) (fun j cc e => by
        obtain ⟨cur, hc⟩ := own_obj (HO.out _ (Kp.alloc _ _ _)) e.symm
        rw [hc]
        constructor <;> (intro e2; cases e2))).to
      have HS2 := hide (HS1.out.new2 k6 (Own.mo g cap L (S.map kv)) (Own.to ⟨va, i, vc⟩ L' (S.map kv)) hM hT 6 (by decide))
      have hcap := HS2.out.moCap 0 rfl
      rw [HAl.out] at hcap
      have hc1 : (i : Int) ≤ (cap : Int) := by omega
      have hi0 : (0 : Int) ≤ (i : Int) := by omega
      have hi1 : (i : Int) < ((i + 1 : Nat) : Int) := by omega
      have hi2 : (i : Int) < (i : Int) + 1 := by omega
      clear hown hgrow hnil hg0 k6 hM hT HO HL HT HK HB HS1
      go_wp2_with (first
        | (go_at_call 64; have HZ := HS2.out.layP 0 rfl HA.out S rfl; rw [HAl.out] at HZ; refine HZ.mono ?_; clear HZ; rintro e w7 ⟨r, rfl, HZ⟩; have HC := hide HZ.out.1; have HS3 := hide HZ.out.2; clear HZ HS2)
        | (go_at_call 187; have HZ := HS3.out.layD 1 rfl HA.out S rfl (all5_1 (by simp) (all5_1 (by simp) (all5_1 (by simp) all5_0))); rw [HAl.out] at HZ; refine HZ.mono ?_; clear HZ; rintro e w8 ⟨r2, rfl, HZ⟩; have er := (lay_one rfl HC.out HZ.out.1).1; subst er; have HS4 := hide HZ.out.2; clear HZ HS3 HC)
        | (go_at_call 75; have HZ := HS4.out.sameM 0 1 rfl rfl HA.out; rw [HAl.out] at HZ; refine HZ.mono ?_; clear HZ; rintro e w9 ⟨rfl, HS5⟩; clear HS4; have cl := HS5.out.moLast 0 rfl; rw [HAl.out] at cl))
      go_loopw [13, 14] (fun okv it wr => ∃ j : Nat, it = .int .i64 (j : Int) ∧ okv = .bool true ∧ j ≤ i ∧ wr = w9) (fun _ it _ => i - (intOf it).toNat)
      case atStart => exact ⟨0, rfl, by simp, Nat.zero_le _, rfl⟩
      case round =>
        obtain ⟨j, rfl, rfl, hji, rfl⟩ := hrel
        by_cases hlt : j < i
        · obtain ⟨v, cj, ys, hv, key, hmem⟩ := HS5.out.moAt 0 rfl j (by rw [HAl.out]; exact hlt)
          have HKP := kept138 wr 0 v ys hv (by have : ys.length ≤ 140737488351232 := (HA.out.2 _ hmem).2.2.2; omega)
          have hltI : (j : Int) < (i : Int) := by omega
          have hj0 : (0 : Int) ≤ (j : Int) := by omega
          have hj1 : (j : Int) < ((i + 1 : Nat) : Int) := by omega
          have hj2 : (j : Int) < (i : Int) + 1 := by omega
          have hwi : wrap64 ((j : Int) + 1) = ((j + 1 : Nat) : Int) := by have := HN.out; unfold wrap64; omega
          have HW := hide (And.intro hlt hwi)
          obtain ⟨va2, vn2, vc2⟩ := v
          simp only [sl] at HKP cj
          clear hv hmem hlt hwi hji
          go_wp2_with (go_at_call 138; refine HKP.mono ?_; rintro e w10 ⟨rfl, hw⟩; obtain rfl := hw.symm)
          rw [HW.out.2]
          exact ⟨⟨j + 1, rfl, rfl, HW.out.1, trivial⟩, lt_mi rfl HW.out.1⟩
        · obtain rfl : j = i := by omega
          have hnl : ¬ (j : Int) < (j : Int) := by omega
          clear hlt hji
          go_wp2_with (first
            | (go_at_call 188; have HZ := HS5.out.spoilMo 0 rfl (by decide) HA.out; rw [HAl.out] at HZ; refine HZ.mono ?_; clear HZ; rintro e w11 ⟨rfl, HS6⟩; clear HS5 cl)
            | (go_at_call 72; refine (num72 _ _).mono ?_; rintro e w12 ⟨rfl, hw⟩; obtain rfl := hw.symm))
          go_ret
          exact ⟨by simp, HS6.out.nx⟩
end
end Go.Proofs.Ytchealdgncgjoaa.StU
