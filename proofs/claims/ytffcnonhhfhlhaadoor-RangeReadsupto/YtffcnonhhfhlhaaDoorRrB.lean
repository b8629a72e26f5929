import Derived.Test.YtffcnonhhfhlhaaDoorRrA
namespace Go.Proofs.YtffcnonhhfhlhaaDoor.Ws
open Go.RowKit Go.Shelf
open Num
set_option linter.unusedVariables false
/-- what the document's number answers -/
def NumR (l : List UInt8) (most a : Nat) (e : Ending) : Prop :=
  (okD most (tw (l.drop a)) ∧ e = .returned (.tuple #[.int .u64 (dv (tw (l.drop a)) : Int), .int .i64 ((a + (tw (l.drop a)).length : Nat) : Int)])) ∨
  (¬ okD most (tw (l.drop a)) ∧ e = .returned (.tuple #[.int .u64 0, .int .i64 (-1)]))
theorem at_some {s : ByteArray} {k : Nat} (h : k < s.size) : s.data.toList[k]? = some s[k] := by
  rw [List.getElem?_eq_getElem (by simpa using h), Num.byte_at s k h]
theorem at_none {s : ByteArray} {k : Nat} (h : s.size ≤ k) : s.data.toList[k]? = none := List.getElem?_eq_none (by simpa using h)
theorem c48 {c : UInt8} : c.toNat = 48 ↔ c = 48 := by rw [← UInt8.toNat_inj]; rfl
/-- the end of the digits -/
theorem num_end {s : ByteArray} {most a k n : Nat} (h : Nm s.data.toList most a k n) (he : s.data.toList[k]? = none ∨ ∃ c, s.data.toList[k]? = some c ∧ isD c = false) :
    (k = a → NumR s.data.toList most a (.returned (.tuple #[.int .u64 0, .int .i64 (-1)]))) ∧ (a < k → NumR s.data.toList most a (.returned (.tuple #[.int .u64 (n : Int), .int .i64 (k : Int)]))) := by
  refine ⟨fun e => ?_, fun e => ?_⟩
  · subst e
    exact .inr ⟨h.empty he, rfl⟩
  · obtain ⟨h1, h2, h3⟩ := h.ok e he
    refine .inl ⟨h1, ?_⟩
    rw [h2, h3, show a + (k - a) = k by omega]
theorem dv10 (Mo d n : Int) (h : 0 ≤ Mo - d) : (Mo - d) / 10 < n ↔ Mo < 10 * n + d := by omega
set_option maxHeartbeats 2000000 in
theorem number83 (s : ByteArray) (a : Nat) (Mo : Int) (w : World) (hs : s.size ≤ 140737488355328) (ha : a ≤ s.size) (hm : 9 ≤ Mo) (hm2 : Mo ≤ 18446744073709551615) :
    Calls Tryd.prog 83 #[.string s, .int .i64 (a : Int), .int .u64 Mo] w fun e w' => NumR s.data.toList Mo.toNat a e ∧ w' = w := by
  have HA := hide (Nm.start (most := Mo.toNat) (l := s.data.toList) (a := a) (by simpa using ha))
  go_enter Tryd.func83, Tryd.ntmps83
  go_wp2
  go_loop [1, 8] (fun i n => ∃ k : Nat, ∃ m : Int, k ≤ s.size ∧ a ≤ k ∧ i = .int .i64 (k : Int) ∧ n = .int .u64 m ∧ 0 ≤ m ∧ m ≤ Mo ∧ Hid (Nm s.data.toList Mo.toNat a k m.toNat)) (fun i _ => s.size - (intOf i).toNat)
  case atStart => exact ⟨a, 0, ha, Nat.le_refl _, rfl, rfl, Int.le_refl _, by omega, HA.out⟩
  case round =>
    obtain ⟨k, m, hk, hak, rfl, rfl, hm0, hmM, hD⟩ := hrel
    clear HA
    by_cases hlt : k < s.size
    · by_cases hd1 : (s[k].toNat : Int) < 48
      · have he := num_end hD.out (.inr ⟨_, at_some hlt, isD_no.2 (.inl (by omega))⟩)
        have g1 : decide ((s[k].toNat : Int) ≥ 48) = false := by simp; omega
        have hltI : (k : Int) < (s.size : Int) := by omega
        by_cases hka : k = a
        · have HE := hide (he.1 hka)
          have g2 : ((k : Int) == (a : Int)) = true := by simp; omega
          clear he hD hka hm hm2 hmM hm0
          go_wp2
          go_ret2
          exact ⟨HE.out, rfl⟩
        · have HE := hide (he.2 (by omega))
          rw [Int.toNat_of_nonneg hm0] at HE
          have g2 : ((k : Int) == (a : Int)) = false := by simp; omega
          clear he hD hka hm hm2 hmM hm0
          go_wp2
          go_ret2
          exact ⟨HE.out, rfl⟩
      · by_cases hd2 : 57 < (s[k].toNat : Int)
        · have he := num_end hD.out (.inr ⟨_, at_some hlt, isD_no.2 (.inr (by omega))⟩)
          have g1 : decide ((s[k].toNat : Int) ≥ 48) = true := by simp; omega
          have g3 : decide ((s[k].toNat : Int) ≤ 57) = false := by simp; omega
          have hltI : (k : Int) < (s.size : Int) := by omega
          by_cases hka : k = a
          · have HE := hide (he.1 hka)
            have g2 : ((k : Int) == (a : Int)) = true := by simp; omega
            clear he hD hka hm hm2 hmM hm0
            go_wp2
            go_ret2
            exact ⟨HE.out, rfl⟩
          · have HE := hide (he.2 (by omega))
            rw [Int.toNat_of_nonneg hm0] at HE
            have g2 : ((k : Int) == (a : Int)) = false := by simp; omega
            clear he hD hka hm hm2 hmM hm0
            go_wp2
            go_ret2
            exact ⟨HE.out, rfl⟩
        · have g1 : decide ((s[k].toNat : Int) ≥ 48) = true := by simp; omega
          have g3 : decide ((s[k].toNat : Int) ≤ 57) = true := by simp; omega
          have hltI : (k : Int) < (s.size : Int) := by omega
          have hdg : isD s[k] = true := isD_iff.2 (by omega)
          have has : a < s.size := by omega
          have hw8 : IntKind.u8.wrap ((s[k].toNat : Int) - 48) = (s[k].toNat : Int) - 48 := by show ((s[k].toNat : Int) - 48) % 256 = _; omega
          have ezz : ((s[k].toNat : Int) - 48).toNat = s[k].toNat - 48 := by omega
          obtain ⟨d, hd⟩ : ∃ d, (s[k].toNat : Int) - 48 = d := ⟨_, rfl⟩
          have hd0 : 0 ≤ d := by omega
          have hd9 : d ≤ 9 := by omega
          have hdn : s[k].toNat - 48 = d.toNat := by omega
          by_cases hz : a < k ∧ s[a].toNat = 48
          · have HE : Hid (NumR s.data.toList Mo.toNat a (.returned (.tuple #[.int .u64 0, .int .i64 (-1)]))) := hide (.inr ⟨hD.out.zero (at_some hlt) hdg hz.1 (by rw [at_some has, c48.1 hz.2]), rfl⟩)
            have g4 : decide ((k : Int) > (a : Int)) = true := by simp; omega
            have g4' : (k : Int) > (a : Int) := by omega
            have g5 : ((s[a].toNat : Int) == 48) = true := by simp; omega
            have haI : (a : Int) < (s.size : Int) := by omega
            clear hz hD hdg hdn hd0 hd9 hd ezz hm hm2 hmM hm0
            go_wp2
            go_ret2
            exact ⟨HE.out, rfl⟩
          · have hz' : k = a ∨ s.data.toList[a]? ≠ some 48 := by
              by_cases e : k = a
              · exact .inl e
              · right
                rw [at_some has]
                intro e2
                exact hz ⟨by omega, c48.2 (Option.some.inj e2)⟩
            have hMd : 0 ≤ Mo - d := by omega
            have u0 : IntKind.u64.wrap (Mo - d) = Mo - d := by show (Mo - d) % 18446744073709551616 = _; omega
            have q1 : (Mo - d).tdiv 10 = (Mo - d) / 10 := Int.tdiv_eq_ediv_of_nonneg hMd
            have u3 : IntKind.u64.wrap ((Mo - d) / 10) = (Mo - d) / 10 := by show ((Mo - d) / 10) % 18446744073709551616 = _; omega
            have haI : (a : Int) < (s.size : Int) := by omega
            have HZ := hide hz
            have ekm : ((m.toNat : Nat) : Int) = m := Int.toNat_of_nonneg hm0
            by_cases ho : (Mo - d) / 10 < m
            · have HE : Hid (NumR s.data.toList Mo.toNat a (.returned (.tuple #[.int .u64 0, .int .i64 (-1)]))) := hide (.inr ⟨hD.out.over (at_some hlt) hdg (by rw [hdn]; omega), rfl⟩)
              have o1 : decide (m > (Mo - d) / 10) = true := by simpa using ho
              clear hz hz' hD hdg hdn hm hm2 hmM hm0 ezz ekm
              by_cases e : k = a
              · have g4 : decide ((k : Int) > (a : Int)) = false := by simp; omega
                have g4' : ¬ (k : Int) > (a : Int) := by omega
                clear e HZ
                go_wp2
                go_ret2
                exact ⟨HE.out, rfl⟩
              · have g4 : decide ((k : Int) > (a : Int)) = true := by simp; omega
                have g4' : (k : Int) > (a : Int) := by omega
                have g5 : ((s[a].toNat : Int) == 48) = false := by
                  have := HZ.out
                  simp only [beq_eq_false_iff_ne]
                  intro h
                  exact this ⟨by omega, by omega⟩
                clear e HZ
                go_wp2
                go_ret2
                exact ⟨HE.out, rfl⟩
            · have H := hide (hD.out.step (at_some hlt) hdg hz' (by rw [hdn]; omega))
              rw [hdn, show 10 * m.toNat + d.toNat = (10 * m + d).toNat by omega] at H
              have o1 : decide (m > (Mo - d) / 10) = false := by simpa using ho
              have o2 : ¬ d > Mo := by omega
              have o3 : decide (d > Mo) = false := by simpa using o2
              have b1 : 10 * m + d ≤ Mo := by omega
              have u1 : IntKind.u64.wrap (10 * m) = 10 * m := by show (10 * m) % 18446744073709551616 = _; omega
              have u2 : IntKind.u64.wrap (10 * m + d) = 10 * m + d := by show (10 * m + d) % 18446744073709551616 = _; omega
              have HF : Hid (0 ≤ 10 * m + d ∧ 10 * m + d ≤ Mo) := hide ⟨by omega, b1⟩
              clear hz hz' hD hdg hdn hm hm2 hmM ezz ekm b1
              by_cases e : k = a
              · have g4 : decide ((k : Int) > (a : Int)) = false := by simp; omega
                have g4' : ¬ (k : Int) > (a : Int) := by omega
                clear e HZ
                go_wp2
                exact ⟨⟨k + 1, 10 * m + d, by omega, by omega, by go_num, rfl, HF.out.1, HF.out.2, H⟩, by simp [intOf]; omega⟩
              · have g4 : decide ((k : Int) > (a : Int)) = true := by simp; omega
                have g4' : (k : Int) > (a : Int) := by omega
                have g5 : ((s[a].toNat : Int) == 48) = false := by
                  have := HZ.out
                  simp only [beq_eq_false_iff_ne]
                  intro h
                  exact this ⟨by omega, by omega⟩
                clear e HZ
                go_wp2
                exact ⟨⟨k + 1, 10 * m + d, by omega, by omega, by go_num, rfl, HF.out.1, HF.out.2, H⟩, by simp [intOf]; omega⟩
    · have he := num_end hD.out (.inl (at_none (by omega)))
      have hltI : ¬ (k : Int) < (s.size : Int) := by omega
      have hltD : decide ((k : Int) < (s.size : Int)) = false := by simpa using hltI
      by_cases hka : k = a
      · have HE := hide (he.1 hka)
        have g2 : ((k : Int) == (a : Int)) = true := by simp; omega
        clear he hD hka hm hm2 hmM hm0
        go_wp2
        go_ret2
        exact ⟨HE.out, rfl⟩
      · have HE := hide (he.2 (by omega))
        rw [Int.toNat_of_nonneg hm0] at HE
        have g2 : ((k : Int) == (a : Int)) = false := by simp; omega
        clear he hD hka hm hm2 hmM hm0
        go_wp2
        go_ret2
        exact ⟨HE.out, rfl⟩
end Go.Proofs.YtffcnonhhfhlhaaDoor.Ws
