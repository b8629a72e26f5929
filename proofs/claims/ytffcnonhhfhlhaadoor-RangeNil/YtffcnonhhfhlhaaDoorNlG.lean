import Derived.Test.YtffcnonhhfhlhaaDoorNlF
namespace Go.Proofs.YtffcnonhhfhlhaaDoor.Rg
open Go.RowKit Go.Shelf Go.Sort Go.Maps
open Go.Proofs.YtffcnonhhfhlhaaDoor.It
attribute [local go_sem] Oper.semAt_some
set_option linter.unusedVariables false

set_option maxRecDepth 100000 in
set_option maxHeartbeats 2000000 in
theorem within0_o (w : World) (Bl Bh Br Bn : Nat) (lo hi : Int)
    (hbl : w.heap[Bl]? = some (.cells #[.int .u64 lo] 23 (0, 0))) (hbh : w.heap[Bh]? = some (.cells #[.int .u64 hi] 23 (0, 0))) (hbr : w.heap[Br]? = some (.cells #[.func (.func 73) #[] #[.pointer (some ⟨Bn, 0, none⟩)]] 39 (0, 0)))
    (hbn : w.heap[Bn]? = some (.cells #[.slice none 0 0] 22 (0, 0))) :
    SeqO Tryd.prog 45 #[.pointer (some ⟨Bl, 0, none⟩), .pointer (some ⟨Bh, 0, none⟩), .pointer (some ⟨Br, 0, none⟩)] (fun x : Sg => #[enc x]) (fun _ _ => False) (fun xs => xs = []) (fun pre => pre <+: []) 0 w := by
  intro n l J Jx W hb hJ hJx hY h0
  replace hbl := (hb.block Bl (blk_lt hbl)).trans hbl
  replace hbh := (hb.block Bh (blk_lt hbh)).trans hbh
  replace hbr := (hb.block Br (blk_lt hbr)).trans hbr
  replace hbn := (hb.block Bn (blk_lt hbn)).trans hbn
  clear hb
  refine callsIn_wide.2 ((callsIn_wide (n := 4)).1 ?_)
  refine callsIn_of_wp_marks Tryd.func45 rfl trivial ?_ rfl
  simp only [Tryd.ntmps45, List.size_toArray, List.length_cons, List.length_nil, Nat.reduceAdd, Nat.reduceSub, Array.replicate_succ, Array.replicate_zero, List.push_toArray, List.append_toArray, List.nil_append, List.cons_append]
  have kW0 := Kp.alloc W (.cells #[.func (.yield l) #[] #[]] 90) Nu
  have k1 := cell1 ((kW0.block Bl (blk_lt hbl) (fun h => h)).trans hbl)
  have k2 := cell1 ((kW0.block Bh (blk_lt hbh) (fun h => h)).trans hbh)
  have k3 := cell1 ((kW0.block Br (blk_lt hbr) (fun h => h)).trans hbr)
  have hbn0 := (kW0.block Bn (blk_lt hbn) (fun h => h)).trans hbn
  have h0' : J [] (W.alloc (.cells #[.func (.yield l) #[] #[]] 90)) := hJ [] W _ none h0 (grown_nu kW0) (fun r e => by cases e)
  have hsz : W.heap.size < (W.alloc (.cells #[.func (.yield l) #[] #[]] 90)).heap.size := by simp
  by_cases hgt : lo > hi
  · have H0 := hide h0'
    clear kW0 hY h0 hJ hJx hbn0 hbn
    gi_wp2
    refine ⟨.tuple #[], ?_, ⟨_, rfl⟩, .inl ⟨_, rfl, H0.out⟩⟩
    simp [results, Tryd.results45, go_sem]
  · clear kW0 hY h0 hbl hbh hbr hbn
    gi_wp2_with fail
    generalize W.alloc (.cells #[.func (.yield l) #[] #[]] 90) = W0 at hbn0 h0' hsz ⊢
    have SQ := SeqO.of_stops fun n => from0_stops n Bn W0 hbn0
    refine range_o (gf := 73) rfl (enters_of Tryd.func73 (by kernel_rfl) rfl) SQ (Below.refl _ _) (fun _ => rfl)
      (fun pre V => J [] V) (fun _ _ _ => False)
      (fun pre X Z row hs hg hr => own_turn hJ (by omega) [] X Z row hs hg hr) (fun _ _ _ _ _ hs _ _ => hs) h0'
      (fun x a' V => True) (fun x a' _ X Z row hs hg hr => trivial)
      ?assign1 ?body1 ?done1 (fun _ _ _ _ _ _ h _ => h.elim)
    case assign1 =>
      rintro l' pre x V K hj hK
      simp only [enc]
      have kV := Kp.alloc V (.cells #[.int .u64 x.lo, .int .u64 x.hi, .int .u8 x.h] 26) Nu
      have HZ := hide (And.intro (hJ [] V _ none hj (grown_nu kV) (fun r e => by cases e)) kV)
      clear hj kV
      gi_wp2
      obtain ⟨f1, kV⟩ := HZ.out
      exact hK _ _ (kf_nu _ kV) (kc_nu kV) f1 trivial
    case body1 =>
      rintro l' pre x a' V hl' hq hI hA hlt
      exact absurd hlt (Nat.not_lt_zero _)
    case done1 =>
      rintro D ys V hD rfl hj hK
      have hj2 : J [] (V.putObj D (.deferred none)) := hJ.putObj _ hj (by omega) hK rfl
      have HF := hide hj2
      clear hj hj2
      gi_wp2
      refine ⟨by simp, .inl ⟨_, _, rfl, run_takeDeferred hK, ?_⟩⟩
      refine ⟨.tuple #[], ?_, ⟨_, rfl⟩, .inl ⟨_, rfl, HF.out⟩⟩
      simp [results, Tryd.results45, go_sem]
end Go.Proofs.YtffcnonhhfhlhaaDoor.Rg
