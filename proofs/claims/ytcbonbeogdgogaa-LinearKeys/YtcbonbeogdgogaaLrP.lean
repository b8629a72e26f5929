import Derived.Test.YtcbonbeogdgogaaLrJ
import Derived.Test.YtcbonbeogdgogaaLoI
import Derived.Laws.AppendOwnNone
namespace Go.Proofs.Ytcbonbeogdgogaa.Li
open Go.RowKit
set_option linter.unusedVariables false
/-- numbers appended to none: a row of one's own -/
theorem append_ns {w : World} {ops : Array Oper} {rest : List Oper} {op : Oper} {a : Act} {Q : Exit → Act → World → Prop} (hgd : op.guard = none) (s x : Operand)
    (ho : op.op = .call { callee := .builtin .append, args := #[s, x], argTypes := #[39, 39] }) (base : Nat) (va : Option Addr) (vc : Nat) (o : List Int) (hl : o.length ≤ 65536)
    (hs : a.eval s = .slice none 0 0) (hx : a.eval x = .slice va o.length vc) (hO : Ns w (.slice va o.length vc) o) (hnil : va = none → vc = 0) (hbase : base ≤ w.heap.size)
    (h : ∀ oa oc w', w'.ownsRow base 3 1 (.slice oa o.length oc) o.length (ics o) → Kp Nu w w' → wpList Try.prog ops Q rest (a.put op.dst (.slice oa o.length oc)) w') : wpList Try.prog ops Q (op :: rest) a w := by
  obtain ⟨i0, hi0, hz0, hz1, hz2⟩ := info_parts info3z
  rcases va with _ | ad
  · have hM0 : o = [] := by
      cases o with
      | nil => rfl
      | cons x o => obtain ⟨b, hb, _⟩ := hO.at_ (j := 0) rfl; cases hb
    have hvc := hnil rfl
    subst hM0
    subst hvc
    exact wpList_append_own_none hgd s x 39 ho base 3 i0 1 Try.underlying39 hi0 _ 0 [] hs (World.ownsRow_nil _ _ _ _) hx (h none 0 _ (World.ownsRow_nil _ _ _ _) (Kp.refl _ _))
  · refine wpList_append_own _ hgd s x 39 ho base 3 i0 _ 1 8 Try.underlying39 hi0 hz0 hz1 hz2 rfl (by decide) (.slice none 0 0) 0 [] hs (World.ownsRow_nil _ _ _ _) ad o.length vc (ics o) hx (by simp [ics_len]) (fun j x hj => ?_) (fun u hu => ?_) (by unfold maxLen; omega) (by omega) hbase ?_
    · simp only [ics, List.getElem?_map, Option.map_eq_some_iff] at hj
      obtain ⟨y, hy, rfl⟩ := hj
      obtain ⟨b, hb, hc⟩ := hO.at_ hy
      cases hb
      exact hc
    · obtain ⟨x, _, rfl⟩ := List.mem_map.1 hu
      rfl
    · intro v' w' h1 h2 _
      rw [Nat.zero_add, List.nil_append] at h1
      obtain ⟨oa, oc, rfl, _, _⟩ := id (Ns.of_own h1)
      exact h oa oc w' h1 ((Kp.of_grown h2).mono (fun i hi e => by simp [Value.ownBlock] at e))
theorem ics_snoc (o : List Int) (x : Int) : ics (o ++ [x]) = ics o ++ [.int .i64 x] := by simp [ics]
/-- the numbers of a set -/
def Bts (st : Nat) (o : List Int) : Prop := ∀ k : Nat, st.testBit k = true ↔ (k : Int) ∈ o
/-- whether a number has come up -/
structure Us (wl wr : World) (bb : Bool) (x : Int) (l : List Int) : Prop where
  w : wr = wl
  m : bb = true ↔ x ∈ l
set_option maxRecDepth 100000 in
set_option maxHeartbeats 2000000 in
theorem permute18 {L : List Ca} (hNo : ∀ o, ¬ Obs L o) (hK : Kys L) (hN : L.length ≤ 6) : ∀ (f st : Nat), 2 ^ L.length ≤ st + f → ∀ (w : World) (u : Value) (va : Option Addr) (vc : Nat) (o : List Int), Cls w u L → Ns w (.slice va o.length vc) o → (va = none → vc = 0) → st < 2 ^ L.length → o.length ≤ st → Bts st o →
    Calls Try.prog 18 #[u, .slice va o.length vc] w fun e w' => e = .returned (.bool false) ∧ Kp Nu w w' := by
  obtain ⟨i0, hiT, hz0, hz1, hz2⟩ := info_parts info3z
  intro f
  induction f with
  | zero => intro st h1 w u va vc o h2 h3 h4 h5; omega
  | succ f ih =>
  intro st hf w u va vc o hL hO hnil hst hol hB
  have h64 : 2 ^ L.length ≤ 64 := Nat.le_trans (Nat.pow_le_pow_right (by decide) hN) (by decide)
  have OB := obeys17 w u (.slice va o.length vc) L o hL hO (by omega) (by omega) hK
  obtain ⟨ua, uc, rfl⟩ := hL.slice
  obtain ⟨N, eN⟩ : ∃ N, L.length = N := ⟨_, rfl⟩
  obtain ⟨M, eM⟩ : ∃ M, o.length = M := ⟨_, rfl⟩
  have HL := hide (And.intro hL (And.intro hO (And.intro hnil (And.intro hf (And.intro hst (And.intro hol (And.intro hB (And.intro hNo (And.intro ih (And.intro eN eM))))))))))
  have hM64 : M ≤ 64 := by omega
  have hMI : (M : Int) ≤ 64 := by omega
  have hN6 : (N : Int) ≤ 6 := by omega
  rw [eN] at OB ⊢
  rw [eM] at OB ⊢
  clear hL hO hnil hf hst hol hB hNo ih h64 eN eM
  go_enter Try.func18, Try.ntmps18
  go_wp2_with fail
  refine OB.mono ?_; rintro e w1 ⟨⟨b1, rfl, hb1⟩, hk1⟩
  cases b1 with
  | true => exact absurd (hb1.1 rfl) (HL.out.2.2.2.2.2.2.2.1 o)
  | false =>
  have HK1 := hide hk1
  clear OB hb1 hk1
  go_wp2
  go_loopw [5] (fun iv wr => ∃ i : Nat, iv = .int .i64 (i : Int) ∧ i ≤ N ∧ Hid (Kp Nu w wr)) (fun iv _ => N - (intOf iv).toNat)
  case atStart => exact ⟨0, rfl, Nat.zero_le _, HK1⟩
  case round =>
    clear HK1
    obtain ⟨i, rfl, hi, hI⟩ := hrel
    have hi0 : (0 : Int) ≤ (i : Int) := by omega
    obtain ⟨wl, rfl⟩ : ∃ wl : World, wl = wr := ⟨_, rfl⟩
    by_cases hlt : i < N
    · have hltI : (i : Int) < (N : Int) := by omega
      go_wp2
      go_loopw [6, 7] (fun bv jv wr => ∃ (j : Nat) (bb : Bool), jv = .int .i64 (j : Int) ∧ bv = .bool bb ∧ j ≤ M ∧ Hid (Us wl wr bb (i : Int) (o.take j))) (fun _ jv _ => M - (intOf jv).toNat)
      case atStart => exact ⟨0, false, rfl, rfl, Nat.zero_le _, hide ⟨rfl, by simp⟩⟩
      case round =>
        obtain ⟨j, bb, rfl, rfl, hj, hJ⟩ := hrel
        have hw := hJ.out.w
        subst hw
        have hj0 : (0 : Int) ≤ (j : Int) := by omega
        by_cases hjl : j < M
        · have hjI : (j : Int) < (M : Int) := by omega
          obtain ⟨y, hy⟩ : ∃ y, o[j]? = some y := ⟨_, List.getElem?_eq_getElem (by rw [HL.out.2.2.2.2.2.2.2.2.2.2]; exact hjl)⟩
          obtain ⟨bO, e', ky⟩ := (HL.out.2.1.nu hI.out).at_ hy
          subst e'
          have etj : (j : Int).toNat = j := by omega
          have HY := hide hy
          clear hy
          cases bb with
          | true =>
            go_wp2
            refine ⟨⟨j + 1, true, by go_num, rfl, by omega, hide ⟨rfl, ?_⟩⟩, by simp [intOf]; omega⟩
            simp only [true_iff]
            rw [List.take_add_one]
            exact List.mem_append.2 (.inl (hJ.out.m.1 rfl))
          | false =>
            by_cases hyi : y = (i : Int)
            · have ey : (y == (i : Int)) = true := by simpa using hyi
              have HE := hide hyi
              clear hyi
              go_wp2
              refine ⟨⟨j + 1, true, by go_num, rfl, by omega, hide ⟨rfl, ?_⟩⟩, by simp [intOf]; omega⟩
              simp only [true_iff]
              rw [List.take_add_one, HY.out]
              exact List.mem_append.2 (.inr (by simp [HE.out]))
            · have ey : (y == (i : Int)) = false := by simpa using hyi
              have HE := hide hyi
              clear hyi
              go_wp2
              refine ⟨⟨j + 1, false, by go_num, rfl, by omega, hide ⟨rfl, ?_⟩⟩, by simp [intOf]; omega⟩
              rw [List.take_add_one, HY.out]
              refine ⟨(fun h => by cases h), fun h => ?_⟩
              rcases List.mem_append.1 h with h | h
              · exact hJ.out.m.2 h
              · exact absurd (by simpa using h : (i : Int) = y).symm HE.out
        · have hge : ¬ (j : Int) < (M : Int) := by omega
          have hin : bb = true ↔ (i : Int) ∈ o := by
            have q := hJ.out.m
            rw [List.take_of_length_le (by rw [HL.out.2.2.2.2.2.2.2.2.2.2]; omega)] at q
            exact q
          have HIN := hide hin
          clear hin hJ
          cases bb with
          | true =>
            go_wp2
            exact ⟨⟨i + 1, by go_num, by omega, hI⟩, by simp [intOf]; omega⟩
          | false =>
            have hnot : (i : Int) ∉ o := fun h => by have := HIN.out.2 h; cases this
            have hO1 := HL.out.2.1.nu hI.out
            rw [HL.out.2.2.2.2.2.2.2.2.2.2] at hO1
            have hsz := hI.out.size
            have HO := hide (And.intro hO1 (And.intro hnot hsz))
            clear hO1 hnot hsz HIN
            go_wp2_with (at_builtin; refine unhid ?_)
            refine append_ns rfl _ _ rfl w.heap.size va vc o (by rw [HL.out.2.2.2.2.2.2.2.2.2.2]; omega) rfl (by rw [HL.out.2.2.2.2.2.2.2.2.2.2]; rfl) (by rw [HL.out.2.2.2.2.2.2.2.2.2.2]; exact HO.out.1) HL.out.2.2.1 HO.out.2.2 ?_
            intro oa oc w2 hown2 hk2
            rw [HL.out.2.2.2.2.2.2.2.2.2.2] at hown2 ⊢
            have H2 := hide (And.intro hown2 hk2)
            have hsz2 : w.heap.size ≤ w2.heap.size := Nat.le_trans HO.out.2.2 hk2.size
            clear hown2 hk2
            go_wp2_with (at_builtin; refine unhid ?_)
            refine wpList_append_lies _ rfl _ _ 39 rfl w.heap.size 3 i0 _ 1 8 Try.underlying39 hiT hz0 hz1 hz2 rfl (by decide) (.slice oa M oc) M (ics o) rfl (H2.out.1.alloc _) ⟨w2.heap.size, 0, none⟩ 1 1 [.int .i64 (i : Int)] rfl rfl (World.news_of_block (heap_new w2 _)) (by simp [Value.oneCell']) (by decide) (by unfold maxLen; omega) (by omega) (by rw [World.size_alloc]; omega) _ rfl ?_
            intro g3 cap3 w3 hown3 hgrow3 hat3 hlt3
            have k3 : Kp Nu w w3 := ((hI.out.andNu H2.out.2).andAlloc _).trans (Kp.of_grown hgrow3) (fun x hx e => by have := own_ge (H2.out.1.alloc (.cells #[.int .i64 (i : Int)] 3)) e.symm; omega)
            have elen : (o ++ [(i : Int)]).length = M + 1 := by rw [List.length_append, HL.out.2.2.2.2.2.2.2.2.2.2]; rfl
            have hns : Ns w3 (.slice (some ⟨g3, 0, none⟩) (o ++ [(i : Int)]).length cap3) (o ++ [(i : Int)]) := Ns.of_own (B := w.heap.size) (by rw [elen, ics_snoc]; exact hown3)
            have hbit : st.testBit i = false := by
              cases hb : st.testBit i with
              | false => rfl
              | true => exact absurd ((HL.out.2.2.2.2.2.2.1 i).1 hb) HO.out.2.1
            have hgt := put_gt hbit
            have RC := HL.out.2.2.2.2.2.2.2.2.1 (st ||| 2 ^ i) (by have := HL.out.2.2.2.1; omega) w3 (.slice ua N uc) (some ⟨g3, 0, none⟩) cap3 (o ++ [(i : Int)]) (by have q := HL.out.1.nu k3; rw [HL.out.2.2.2.2.2.2.2.2.2.1] at q; exact q) hns (fun e => by cases e) (put_lt HL.out.2.2.2.2.1 (by rw [HL.out.2.2.2.2.2.2.2.2.2.1]; exact hlt)) (by rw [elen]; have := HL.out.2.2.2.2.2.1; rw [HL.out.2.2.2.2.2.2.2.2.2.2] at this; omega) (fun k => by
              rw [put_bit, Bool.or_eq_true, HL.out.2.2.2.2.2.2.1 k, decide_eq_true_eq, List.mem_append, List.mem_singleton]
              exact ⟨fun q => q.imp id (fun q => by omega), fun q => q.imp id (fun q => by omega)⟩)
            rw [elen] at RC
            have HK3 := hide k3
            clear hown3 hgrow3 hat3 hlt3 k3 elen hns hbit hgt
            go_wp2_with fail
            refine RC.mono ?_; rintro e w4 ⟨rfl, hk4⟩
            have HK4 := hide (HK3.out.andNu hk4)
            clear RC hk4
            go_wp2
            exact ⟨⟨i + 1, by go_num, by omega, HK4⟩, by simp [intOf]; omega⟩
    · have hge : ¬ (i : Int) < (N : Int) := by omega
      go_wp2
      go_ret
      exact ⟨rfl, hI.out⟩
end Go.Proofs.Ytcbonbeogdgogaa.Li
