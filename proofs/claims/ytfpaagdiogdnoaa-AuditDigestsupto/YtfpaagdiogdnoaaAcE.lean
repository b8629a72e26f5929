import Derived.Test.YtfpaagdiogdnoaaAcD
import Derived.Deep.RegionHeld3
namespace Go.Proofs.Ytfpaagdiogdnoaa.Cd
open Go.RowKit
set_option linter.unusedVariables false
/-- the bytes of pairs -/
def lay (l : List (Int × List Int)) : List Int := l.flatMap (fun p => hd p.1 p.2.length ++ p.2)
def said (L : List Pq) : List (Int × List Int) := L.map (fun p => (p.k, p.xs))
theorem said_take {L : List Pq} {i : Nat} {p : Pq} (h : L[i]? = some p) : said (L.take (i + 1)) = said (L.take i) ++ [(p.k, p.xs)] := by
  unfold said
  rw [take_more h, List.map_append]
  rfl
theorem lay_snoc (l : List (Int × List Int)) (p : Int × List Int) : lay (l ++ [p]) = lay l ++ (hd p.1 p.2.length ++ p.2) := by simp [lay]
theorem Rd.of_block {w : World} {b : Nat} {xs : List Int} {n : Nat} (h : w.heap[b]? = some (.cells (cs xs).toArray 5 (0, 0))) (hn : n = xs.length) (cap : Nat) : Rd w (.slice (some ⟨b, 0, none⟩) n cap) xs := by
  subst hn
  refine .inr ⟨_, cap, rfl, fun j u hj => ?_⟩
  rw [Addr.add_lit, Nat.zero_add]
  simp [World.cell?, h, hj]
theorem hd_len (k : Int) (n : Nat) : (hd k n).length = 10 := by simp [hd, be_length]
set_option maxRecDepth 100000 in
set_option maxHeartbeats 4000000 in
theorem digest5 (w : World) (u : Value) (L : List Pq) (hL : Prs w u L) (hN : L.length ≤ 1048576) :
    Calls Try.prog 5 #[u] w fun e w' => e = .returned (.int .u64 (fv 14695981039346656037 (lay (said L)))) ∧ Kp Nu w w' := by
  obtain ⟨ua, uc, hu, hdm⟩ := id hL
  clear hdm
  obtain ⟨N, eN⟩ : ∃ N, L.length = N := ⟨_, rfl⟩
  rw [eN] at hu hN
  subst hu
  have HL := hide (And.intro hL eN)
  have hNI : (N : Int) ≤ 1048576 := by omega
  have F9 := fnv9 w (.slice none 0 0) [] (.inl ⟨rfl, rfl⟩) (by simp)
  clear hL eN
  go_enter Try.func5, Try.ntmps5
  go_wp2_with fail
  refine F9.mono ?_; rintro e w1 ⟨rfl, rfl⟩
  clear F9
  obtain ⟨s0, es0⟩ : ∃ s0, fv 14695981039346656037 [] = s0 := ⟨_, rfl⟩
  rw [es0]
  have HS := hide es0
  clear es0
  go_wp2
  go_loopw [3, 9] (fun sv iv wr => ∃ (i : Nat) (s : Int), iv = .int .i64 (i : Int) ∧ sv = .int .u64 s ∧ i ≤ N ∧ Hid (s = fv 14695981039346656037 (lay (said (L.take i))) ∧ Kp Nu w1 wr)) (fun _ iv _ => N - (intOf iv).toNat)
  case atStart => exact ⟨0, s0, rfl, rfl, Nat.zero_le _, hide ⟨HS.out.symm, Kp.refl _ _⟩⟩
  case round =>
    obtain ⟨i, s, rfl, rfl, hi, hI⟩ := hrel
    have hii : (0 : Int) ≤ (i : Int) := by omega
    by_cases hlt : i < N
    · have hltI : (i : Int) < (N : Int) := by omega
      obtain ⟨p, hp⟩ : ∃ p, L[i]? = some p := ⟨_, List.getElem?_eq_getElem (by rw [HL.out.2]; exact hlt)⟩
      obtain ⟨b, o, rfl, x0, x1, hok⟩ := (HL.out.1.nu hI.out.2).at_ hp
      have eti : (i : Int).toNat = i := by omega
      obtain ⟨k, ek⟩ : ∃ k, p.k = k := ⟨_, rfl⟩
      obtain ⟨n, en⟩ : ∃ n, p.xs.length = n := ⟨_, rfl⟩
      obtain ⟨ys, ey⟩ : ∃ ys, p.xs = ys := ⟨_, rfl⟩
      have h0 := hok.fine.lo
      have h1 := hok.fine.hi
      have hlen := hok.fine.len
      have hrd := hok.rd
      rw [ek] at x0 h0 h1
      rw [en] at x1 hlen hrd
      rw [ey] at hrd en
      obtain ⟨pa, epa⟩ : ∃ pa, p.a = pa := ⟨_, rfl⟩
      obtain ⟨pc, epc⟩ : ∃ pc, p.c = pc := ⟨_, rfl⟩
      rw [epa, epc] at x1 hrd
      have kA := Kp.alloc wr (.cells #[.int .u64 k, .slice pa n pc] 31) Nu
      have bA := heap_alloc_new wr (.cells #[.int .u64 k, .slice pa n pc] 31)
      have HD : ∀ W, Kp Nu (wr.alloc (.cells #[.int .u64 k, .slice pa n pc] 31)) W → Calls Try.prog 11 #[.agg #[.int .u64 k, .slice pa n pc]] W fun e w' => ∃ b, e = .returned (.slice (some ⟨b, 0, none⟩) 10 10) ∧ w'.heap[b]? = some (.cells (cs (hd k n)).toArray 5 (0, 0)) ∧ Kp Nu (wr.alloc (.cells #[.int .u64 k, .slice pa n pc] 31)) w' := fun W kk => (headOf11 W k pa n pc h0 h1 (by omega)).mono (fun e w' ⟨b, e1, e2, e3⟩ => ⟨b, e1, e2, kk.andNu e3⟩)
      have HV : ∀ W, Kp Nu (wr.alloc (.cells #[.int .u64 k, .slice pa n pc] 31)) W → Rd W (.slice pa n pc) ys := fun W kk => (hrd.nu kA).nu kk
      have HLy : ys.length ≤ 281474976710656 := by omega
      have HF : ∀ W z v zs, Rd W v zs ∧ zs.length ≤ 281474976710656 → Calls Try.prog 10 #[.int .u64 z, v] W fun e w' => e = .returned (.int .u64 (fv z zs)) ∧ w' = W := fun W z v zs hr => fnvMore10 W z v zs hr.1 hr.2
      have HS : ∀ W, Kp Nu (wr.alloc (.cells #[.int .u64 k, .slice pa n pc] 31)) W → W.cell? ⟨wr.heap.size, 0, none⟩ = some (.int .u64 k) ∧ W.cell? ⟨wr.heap.size, 1, none⟩ = some (.slice pa n pc) := fun W kk => cell2 (cell_nuB bA kk (fun h => h))
      have HH : ∀ W b, W.heap[b]? = some (.cells (cs (hd k n)).toArray 5 (0, 0)) → Rd W (.slice (some ⟨b, 0, none⟩) 10 10) (hd k n) := fun W b hb => Rd.of_block hb (hd_len k n).symm 10
      have HLh : (hd k n).length ≤ 281474976710656 := by rw [hd_len]; omega
      generalize ehh : hd k n = hh at HH HLh HD
      have HEh := hide ehh
      clear ehh
      have HP := hide (And.intro (said_take hp) (And.intro ek (And.intro ey (And.intro en kA))))
      clear hp hok ek en ey epa epc hrd kA bA h0 h1 hlen
      go_wp2_with fail
      obtain ⟨c0, c1⟩ := HS _ (Kp.refl _ _)
      generalize hWA : wr.alloc (.cells #[.int .u64 k, .slice pa n pc] 31) = WA at *
      go_region_held3 (fun W => W.cell? ⟨wr.heap.size, 0, none⟩ = some (.int .u64 k) ∧ W.cell? ⟨wr.heap.size, 1, none⟩ = some (.slice pa n pc)) (first | (refine HS _ ?_; repeat (first | assumption | exact Kp.refl _ _ | apply Kp.drew))) (first | (go_at_call 11; refine (HD _ ?_).mono ?_; (repeat (first | assumption | exact Kp.refl _ _ | apply Kp.drew)); rintro e w2 ⟨b2, rfl, hb2, hk2⟩) | (go_at_call 10; refine (HF _ _ _ _ (by first | exact ⟨HH _ _ (by assumption), HLh⟩ | exact ⟨HV _ (by assumption), HLy⟩)).mono ?_; rintro e w3 ⟨rfl, rfl⟩))
      go_wp2
      refine ⟨⟨i + 1, _, by go_num, rfl, by omega, hide ⟨?_, hI.out.2.andNu (HP.out.2.2.2.2.andNu hk2)⟩⟩, by simp [intOf]; omega⟩
      rw [HP.out.1, lay_snoc, fv_append, fv_append, ← hI.out.1, HP.out.2.1, HP.out.2.2.1, HP.out.2.2.2.1, HEh.out]
    · have hge : ¬ (i : Int) < (N : Int) := by omega
      have e := hI.out.1
      rw [List.take_of_length_le (by have := HL.out.2; omega)] at e
      have HE := hide (And.intro e hI.out.2)
      clear e hI
      go_wp2
      go_ret
      refine ⟨?_, HE.out.2⟩
      rw [← HE.out.1]
      rfl
end Go.Proofs.Ytfpaagdiogdnoaa.Cd
