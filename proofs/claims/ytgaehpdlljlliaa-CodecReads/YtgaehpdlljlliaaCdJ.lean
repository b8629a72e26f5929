import Derived.Test.YtgaehpdlljlliaaCdI
namespace Go.Proofs.Ytgaehpdlljlliaa.Cd
open Go.RowKit
set_option linter.unusedVariables false

/-- new memory, or none -/
def fresh (n : Nat) (u : Value) : Prop := at? u = none ∨ ∃ G, n ≤ G ∧ at? u = some G

/-- what a reading call of bytes leaves -/
def ReadsB (f b g : Nat) (n : Int) (w : World) (ys : List Int) (err : Int) (xs : List Int) : Prop :=
  Calls Try.prog f #[.pointer (some ⟨b, 0, none⟩), .int .i64 n] w fun e w' => ∃ u, e = .returned u ∧ Rd w' u ys ∧ fresh w.heap.size u ∧ (∃ v', Rr w' b g err v' xs) ∧ Kp (iS b) w w'

/-- what Raw gives -/
def rdR (n : Int) (err : Int) (xs : List Int) : List Int × Int × List Int :=
  if err = 0 then (if n < 0 then ([], 2, xs) else if n > (xs.length : Int) then ([], 21, xs) else (xs.take n.toNat, 0, xs.drop n.toNat)) else ([], err, xs)

theorem block_lt {w : World} {k : Nat} {o : Obj} (h : w.heap[k]? = some o) : k < w.heap.size := by
  rcases Nat.lt_or_ge k w.heap.size with hlt | hge
  · exact hlt
  · rw [Array.getElem?_eq_none hge] at h; cases h

theorem rd_new {w : World} {G : Nat} {ys : List Int} (h : w.heap[G]? = some (.cells (cs ys).toArray 5 (0, 0))) : Rd w (.slice (some ⟨G, 0, none⟩) ys.length ys.length) ys := by
  refine .inr ⟨⟨G, 0, none⟩, ys.length, rfl, fun j u hj => ?_⟩
  rw [addo]
  simpa [World.cell?, h] using hj

section
variable {w : World} {b g : Nat} {err : Int} {v : Value} {xs : List Int}

/-- own behind a change of the reader's block -/
theorem own_then {w1 : World} {u : Value} {ys : List Int} {q : Int} {zs : List Int} (hk : Kp (iS b) w w1) (hr : ∃ v', Rr w1 b g q v' zs) (hu : Rd w1 u ys) (hl : ys.length ≤ 140737488355328) :
    Calls Try.prog 46 #[u] w1 fun e w' => ∃ u', e = .returned u' ∧ Rd w' u' ys ∧ fresh w.heap.size u' ∧ (∃ v', Rr w' b g q v' zs) ∧ Kp (iS b) w w' := by
  refine (own_any hu hl).mono ?_
  rintro e w' ⟨rfl, hh, hk2⟩
  obtain ⟨v', hr⟩ := hr
  exact ⟨_, rfl, rd_new hh, .inr ⟨_, hk.size, rfl⟩, ⟨v', hr.keeps hk2 (fun h => h) (fun h => h)⟩, hk.trans hk2 (fun _ _ h => h.elim)⟩

theorem Rr.len (h : Rr w b g err v xs) : xs.length ≤ 16777216 := by
  obtain ⟨off, cap, _, h1, h2, _⟩ := h.win.is
  omega

set_option maxHeartbeats 400000 in
theorem rraw_any (h : Rr w b g err v xs) (n : Int) : ReadsB 62 b g n w (rdR n err xs).1 (rdR n err xs).2.1 (rdR n err xs).2.2 := by
  have hlen := h.len
  show Calls _ _ _ _ _
  by_cases hn : n < 0
  · have F := fail_any h 2
    have hq : failed err 2 ≠ 0 := by unfold failed; split <;> omega
    have hq' : (failed err 2 == 0) = false := by simpa using hq
    have e : rdR n err xs = ([], failed err 2, xs) := by
      unfold rdR failed
      split
      · first | rfl | rw [if_pos hn]
      · rfl
    rw [e]
    generalize failed err 2 = q at *
    have T := fun w v (hr : Rr w b g q v xs) => take_err hr hq' n
    clear hq hlen e
    go_enter Try.func62, Try.ntmps62
    go_wp2_with fail
    refine F.mono ?_; rintro e w1 ⟨rfl, hr, hk⟩
    go_wp2_with fail
    refine (T _ _ hr).mono ?_; rintro e w1 ⟨rfl, rfl⟩
    have O := own_then (ys := []) hk ⟨_, hr⟩ (.inl ⟨rfl, rfl⟩) (by simp)
    go_wp2_with fail
    refine O.mono ?_; rintro e w2 ⟨u, rfl, h1, h2, h3, h4⟩
    go_wp2
    go_ret
    exact ⟨_, rfl, h1, h2, h3, h4⟩
  · by_cases he : err = 0
    · subst he
      by_cases hl : n > (xs.length : Int)
      · have T := take_short h n hl
        have e : rdR n 0 xs = ([], 21, xs) := by
          simp only [rdR, if_true, if_neg hn, if_pos hl]
        rw [e]
        clear hlen e
        go_enter Try.func62, Try.ntmps62
        go_wp2_with fail
        refine T.mono ?_; rintro e w1 ⟨rfl, hr, hk⟩
        have O := own_then (ys := []) hk ⟨_, hr⟩ (.inl ⟨rfl, rfl⟩) (by simp)
        go_wp2_with fail
        refine O.mono ?_; rintro e w2 ⟨u, rfl, h1, h2, h3, h4⟩
        go_wp2
        go_ret
        exact ⟨_, rfl, h1, h2, h3, h4⟩
      · obtain ⟨m, rfl⟩ : ∃ m : Nat, n = (m : Int) := ⟨n.toNat, by omega⟩
        have T := take_ok h m (by omega)
        have e : rdR (m : Int) 0 xs = (xs.take m, 0, xs.drop m) := by
          simp only [rdR, if_true, if_neg hn, if_neg hl, Int.toNat_natCast]
        rw [e]
        have hle : (xs.take m).length ≤ 140737488355328 := by rw [List.length_take]; omega
        have HL := hide hle
        clear hlen e hle
        go_enter Try.func62, Try.ntmps62
        go_wp2_with fail
        refine T.mono ?_; rintro e w1 ⟨u, rfl, hu, hr, hk⟩
        have O := own_then hk hr hu.rd HL.out
        go_wp2_with fail
        refine O.mono ?_; rintro e w2 ⟨u, rfl, h1, h2, h3, h4⟩
        go_wp2
        go_ret
        exact ⟨_, rfl, h1, h2, h3, h4⟩
    · have T := take_err h (by simpa using he) n
      have e : rdR n err xs = ([], err, xs) := by simp only [rdR, if_neg he]
      rw [e]
      have O := own_then (ys := []) (Kp.refl (iS b) w) ⟨_, h⟩ (.inl ⟨rfl, rfl⟩) (by simp)
      clear hlen e
      go_enter Try.func62, Try.ntmps62
      go_wp2_with fail
      refine T.mono ?_; rintro e w1 ⟨rfl, rfl⟩
      go_wp2_with fail
      refine O.mono ?_; rintro e w2 ⟨u, rfl, h1, h2, h3, h4⟩
      go_wp2
      go_ret
      exact ⟨_, rfl, h1, h2, h3, h4⟩

/-- what Block gives -/
def rdB (most : Int) (err : Int) (xs : List Int) : List Int × Int × List Int :=
  if err = 0 then
    (if most < 0 then ([], 2, xs) else
     if (gv 0 0 xs).2.2 = 0 then
       (if (gv 0 0 xs).1 > most then ([], 25, xs) else
        if (gv 0 0 xs).1 > (xs.length : Int) - (gv 0 0 xs).2.1 then ([], 21, xs) else
        ((xs.drop (gv 0 0 xs).2.1.toNat).take (gv 0 0 xs).1.toNat, 0, xs.drop ((gv 0 0 xs).2.1.toNat + (gv 0 0 xs).1.toNat)))
     else ([], (gv 0 0 xs).2.2, xs))
  else ([], err, xs)

/-- Block ends with no bytes behind a Fail -/
theorem fresh_nil (n : Nat) : fresh n (.slice none 0 0) := .inl rfl
theorem rd_nil (w : World) : Rd w (.slice none 0 0) [] := .inl ⟨rfl, rfl⟩

set_option maxHeartbeats 1000000 in
theorem rblock_any (h : Rr w b g err v xs) (hB : Byt xs) (most : Int) (hm : most ≤ 9223372036854775807) : ReadsB 63 b g most w (rdB most err xs).1 (rdB most err xs).2.1 (rdB most err xs).2.2 := by
  have hlen := h.len
  obtain ⟨c0, c1⟩ := cell2 h.blk
  have R := reads_any h
  show Calls _ _ _ _ _
  by_cases he : err = 0
  · subst he
    by_cases hn : most < 0
    · have F := fail_any h 2
      rw [show failed 0 2 = 2 from rfl] at F
      rw [show rdB most 0 xs = ([], 2, xs) by simp only [rdB, if_true, if_pos hn]]
      clear hlen hB
      go_enter Try.func63, Try.ntmps63
      go_wp2_with fail
      refine R.mono ?_; rintro e w1 ⟨rfl, rfl⟩
      go_wp2_with fail
      refine F.mono ?_; rintro e w1 ⟨rfl, hr, hk⟩
      go_wp2
      go_ret
      exact ⟨_, rfl, rd_nil _, fresh_nil _, ⟨_, hr⟩, hk⟩
    · have G := getVarint_any w v xs g h.win hB
      obtain ⟨x0, x1⟩ := gv_range xs hB 0 0 (by omega) (by omega) (by simp)
      by_cases hg : (gv 0 0 xs).2.2 = 0
      · have hl := gv_len xs 0 0 hg
        obtain ⟨k, hk⟩ : ∃ k : Nat, (gv 0 0 xs).2.1 = (k : Int) := ⟨(gv 0 0 xs).2.1.toNat, by omega⟩
        obtain ⟨x, hx⟩ : ∃ x : Int, (gv 0 0 xs).1 = x := ⟨_, rfl⟩
        have hw1 : IntKind.u64.wrap most = most := by rw [IntKind.wrap_u64]; omega
        by_cases hmost : x > most
        · have F := fail_any h 25
          rw [show failed 0 25 = 25 from rfl] at F
          rw [show rdB most 0 xs = ([], 25, xs) by simp only [rdB, if_true, if_neg hn, if_pos hg, hx, if_pos hmost]]
          rw [hg, hk, hx] at G
          clear hlen hB hg hk hl hx x0 x1
          go_enter Try.func63, Try.ntmps63
          go_wp2_with fail
          refine R.mono ?_; rintro e w1 ⟨rfl, rfl⟩
          go_wp2_with fail
          refine G.mono ?_; rintro e w1 ⟨rfl, rfl⟩
          go_wp2_with fail
          refine F.mono ?_; rintro e w1 ⟨rfl, hr, hk⟩
          go_wp2
          go_ret
          exact ⟨_, rfl, rd_nil _, fresh_nil _, ⟨_, hr⟩, hk⟩
        · have hlk : (0 : Int) ≤ (xs.length : Int) - (k : Int) := by omega
          have hlI : (xs.length : Int) ≤ 16777216 := by omega
          rw [hx] at x0
          by_cases hsh : x > (xs.length : Int) - (k : Int)
          · have F := fail_any h 21
            rw [show failed 0 21 = 21 from rfl] at F
            rw [show rdB most 0 xs = ([], 21, xs) by simp only [rdB, if_true, if_neg hn, if_pos hg, hx, hk, if_neg hmost, if_pos hsh]]
            rw [hg, hk, hx] at G
            obtain ⟨ad, cap, rfl⟩ := h.win.rd.slice
            clear hlen hB hg hk hl hx x1
            go_enter Try.func63, Try.ntmps63
            go_wp2_with fail
            refine R.mono ?_; rintro e w1 ⟨rfl, rfl⟩
            go_wp2_with fail
            refine G.mono ?_; rintro e w1 ⟨rfl, rfl⟩
            go_wp2_with fail
            refine F.mono ?_; rintro e w1 ⟨rfl, hr, hk⟩
            go_wp2
            go_ret
            exact ⟨_, rfl, rd_nil _, fresh_nil _, ⟨_, hr⟩, hk⟩
          · obtain ⟨m, rfl⟩ : ∃ m : Nat, x = (m : Int) := ⟨x.toNat, by omega⟩
            rw [show rdB most 0 xs = ((xs.drop k).take m, 0, xs.drop (k + m)) by simp only [rdB, if_true, if_neg hn, if_pos hg, hx, hk, if_neg hmost, if_neg hsh, Int.toNat_natCast]]
            have hkm : k + m ≤ xs.length := by omega
            have T := take_ok h (k + m) hkm
            rw [Int.natCast_add] at T
            rw [hg, hk, hx] at G
            have HL : Hid (((xs.take (k + m)).drop k).length ≤ 140737488355328) := by
              show _ ≤ _
              rw [List.length_drop, List.length_take]; omega
            have HE : Hid ((xs.take (k + m)).drop k = (xs.drop k).take m) := by
              show _ = _
              rw [List.drop_take]
              congr 1
              omega
            have HK : Hid (k ≤ (xs.take (k + m)).length) := by
              show _ ≤ _
              rw [List.length_take]; omega
            have hlt2 : (xs.take (k + m)).length = k + m := by rw [List.length_take]; omega
            have hmI : (m : Int) ≤ 16777216 := by omega
            have hkI : (k : Int) ≤ 16777216 := by omega
            obtain ⟨ad0, cap0, rfl⟩ := h.win.rd.slice
            rw [← HE.out]
            generalize xs.take (k + m) = zs at *
            generalize xs.drop (k + m) = rs at *
            clear hlen hB hg hk hl hx x1
            go_enter Try.func63, Try.ntmps63
            go_wp2_with fail
            refine R.mono ?_; rintro e w1 ⟨rfl, rfl⟩
            go_wp2_with fail
            refine G.mono ?_; rintro e w1 ⟨rfl, rfl⟩
            go_wp2_with fail
            refine T.mono ?_; rintro e w1 ⟨u, rfl, hu, hr, hk⟩
            obtain ⟨off, cap, rfl, hlc, hcb, hc⟩ := hu.is
            have hnc : (k : Int) ≤ (cap : Int) := by omega
            have HC := hide hcb
            have HLC := hide hlc
            have HCC := hide hc
            clear hcb hlc hc
            go_wp2_with fail
            · have hck : cap = k := ‹cap = k›
              have h1 : zs.length ≤ cap := HLC.out
              have hm0 : m = 0 := by omega
              have hu2 : Rd w1 (.slice (some ⟨g, off, none⟩) m 0) (zs.drop k) := by
                refine .inr ⟨⟨g, off, none⟩, 0, by rw [List.length_drop]; congr 1; omega, fun j u hj => ?_⟩
                rw [List.drop_eq_nil_of_le (by omega)] at hj
                simp [cs] at hj
              refine (own_then hk hr hu2 HL.out).mono ?_; rintro e w2 ⟨u, rfl, h1, h2, h3, h4⟩
              go_wp2
              go_ret
              exact ⟨_, rfl, h1, h2, h3, h4⟩
            · have hu2 : Rd w1 (.slice (some ⟨g, off + k, none⟩) m (cap - k)) (zs.drop k) := by
                have := (win_drop HK.out HLC.out HC.out HCC.out).rd
                rw [show zs.length - k = m by omega] at this
                exact this
              refine (own_then hk hr hu2 HL.out).mono ?_; rintro e w2 ⟨u, rfl, h1, h2, h3, h4⟩
              go_wp2
              go_ret
              exact ⟨_, rfl, h1, h2, h3, h4⟩
      · have hbad := gv_bad xs 0 0 hg
        have hg' : ((gv 0 0 xs).2.2 != 0) = true := by simpa using hg
        have F := fail_any h (gv 0 0 xs).2.2
        rw [show failed 0 (gv 0 0 xs).2.2 = (gv 0 0 xs).2.2 from rfl] at F
        rw [show rdB most 0 xs = ([], (gv 0 0 xs).2.2, xs) by simp only [rdB, if_true, if_neg hn, if_neg hg]]
        rw [hbad] at G
        generalize (gv 0 0 xs).2.2 = q at *
        simp only at G
        clear hg hB hbad hlen x0 x1
        go_enter Try.func63, Try.ntmps63
        go_wp2_with fail
        refine R.mono ?_; rintro e w1 ⟨rfl, rfl⟩
        go_wp2_with fail
        refine G.mono ?_; rintro e w1 ⟨rfl, rfl⟩
        go_wp2_with fail
        refine F.mono ?_; rintro e w1 ⟨rfl, hr, hk⟩
        go_wp2
        go_ret
        exact ⟨_, rfl, rd_nil _, fresh_nil _, ⟨_, hr⟩, hk⟩
  · have h0 : (err == 0) = false := by simpa using he
    rw [show rdB most err xs = ([], err, xs) by simp only [rdB, if_neg he]]
    clear hB hlen
    go_enter Try.func63, Try.ntmps63
    go_wp2_with fail
    refine R.mono ?_; rintro e w' ⟨rfl, rfl⟩
    go_wp2
    go_ret
    exact ⟨_, rfl, rd_nil _, fresh_nil _, ⟨_, h⟩, Kp.refl _ _⟩

theorem newReader_bad {u : Value} {ys : List Int} (h : Rd w u ys) (hl : (ys.length : Int) > 16777216) : Calls Try.prog 18 #[u] w fun e w' => e = .returned (.tuple #[.pointer none, .int .i64 28]) ∧ w' = w := by
  obtain ⟨ad, cap, rfl⟩ := h.slice
  go_enter Try.func18, Try.ntmps18
  go_wp2
  go_ret2
  exact ⟨rfl, rfl⟩

theorem newReader_ok {u : Value} {ys : List Int} (h : Rd w u ys) (hl : ys.length ≤ 16777216) : Calls Try.prog 18 #[u] w fun e w' => ∃ b, e = .returned (.tuple #[.pointer (some ⟨b, 0, none⟩), .int .i64 0]) ∧ w.heap.size ≤ b ∧ (∃ v', Rr w' b w.heap.size 0 v' ys) ∧ Kp Nu w w' := by
  have O := own_any h (by omega)
  have hlI : ¬ (ys.length : Int) > 16777216 := by omega
  have HL := hide hl
  clear hl
  obtain ⟨ad, cap, rfl⟩ := h.slice
  generalize hn : ys.length = n at *
  go_enter Try.func18, Try.ntmps18
  go_wp2_with fail
  refine O.mono ?_; rintro e w1 ⟨rfl, hh, hk⟩
  go_wp2
  go_ret2
  have hlt := block_lt hh
  refine ⟨_, rfl, hk.size, ⟨_, ⟨heap_alloc_new w1 _, ⟨0, n, by rw [hn], by omega, HL.out, fun j u hj => ?_⟩, by omega, by simp; omega⟩⟩, hk.trans (Kp.alloc _ _ Nu) (fun _ _ h => h)⟩
  rw [addo]
  have : (w1.alloc (.cells #[.slice (some ⟨w.heap.size, 0, none⟩) n n, .int .i64 0] 86)).heap[w.heap.size]? = some (.cells (cs ys).toArray 5 (0, 0)) := (Below.heap_alloc w1 _ _ hlt).trans hh
  simpa [World.cell?, this] using hj
end
end Go.Proofs.Ytgaehpdlljlliaa.Cd
