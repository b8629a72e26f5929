import Derived.Test.YtahcdignedfanaaApA
import Derived.Test.YtahcdignedfanaaApE
import Derived.RegionTactic
import Derived.ChangeAlike
import Derived.BigQuiet
import Derived.Deep.QuietTactic
import Derived.OwnWalk
namespace Go.Proofs.Ytahcdignedfanaa.Ap
open Go.RowKit
open Go.Proofs.Ytahcdignedfanaa.Pc
set_option linter.unusedVariables false

theorem encode_is {r : Int} {E : ByteArray} (h : Hid (Utf8.valid r = true)) (he : Hid (Utf8.encode r = E)) (w : World) :
    Calls Try.prog 8 #[.int .i32 r] w fun e w' => e = .returned (.tuple #[.string E, .int .i64 0]) ∧ w' = w := by
  have := encode_yes r w h
  rw [he.out] at this
  exact this
theorem own_form {w : World} {base e size n : Nat} {v : Value} {xs : List Value} (h : w.ownsRow base e size v n xs) : ∃ a0 cap, v = .slice a0 n cap := by
  rcases h.2 with ⟨rfl, rfl⟩ | ⟨g, cap, cur, rfl, _⟩
  · exact ⟨none, 0, rfl⟩
  · exact ⟨_, cap, rfl⟩
theorem own_addr {w : World} {base e size n cap : Nat} {a0 : Option Addr} {xs : List Value} (h : w.ownsRow base e size (.slice a0 n cap) n xs) (hn : 0 < n) : ∃ g, a0 = some ⟨g, 0, none⟩ := by
  rcases h.2 with ⟨h, h0⟩ | ⟨g, cap, cur, h, _⟩
  · omega
  · cases h; exact ⟨g, rfl⟩
theorem own_below {w w' : World} {base e size n : Nat} {v : Value} {xs : List Value} (h : w.ownsRow base e size v n xs) (hB : Below w.heap.size w w') : w'.ownsRow base e size v n xs := by
  refine h.kept (row := none) ⟨hB.os, hB.tape, hB.output, hB.size, fun k hk _ => hB.block k hk⟩ ?_
  cases v.ownBlock with
  | none => exact .inl rfl
  | some k => exact .inr (by simp)
/-- the cells of piece k of an owned row -/
theorem own_piece {w : World} {base g cap n : Nat} {l : List P4} (h : w.ownsRow base 25 4 (.slice (some ⟨g, 0, none⟩) n cap) n (cellsL l)) (hn : Hid (l.length = n)) (k : Nat) (x : P4) (hx : l[k]? = some x) :
    w.cell? ⟨g, k * 4, none⟩ = some (.int .i32 x.1) ∧ w.cell? ⟨g, k * 4 + 1, none⟩ = some (.int .i64 x.2.1) ∧ w.cell? ⟨g, k * 4 + 2, none⟩ = some (.int .i64 x.2.2.1) ∧ w.cell? ⟨g, k * 4 + 3, none⟩ = some (.bool x.2.2.2) := by
  rcases h.2 with ⟨h, _⟩ | ⟨g', cap', cur, hv, hb, hg, _, hm, hs, ht⟩
  · cases h
  · cases hv
    rw [← hn.out] at ht
    exact row_cells hg ht k x hx
theorem pieces_call (s : ByteArray) (hs : Hid (s.size ≤ 8388608)) (n : Nat) (hn : Hid ((pieces s).length = n)) (w : World) :
    Calls Try.prog 7 #[.string s] w fun e W' => ∃ a0 cap, e = .returned (.slice a0 n cap) ∧ W'.ownsRow w.heap.size 25 4 (.slice a0 n cap) n (cellsL (pieces s)) ∧ Below w.heap.size w W' := by
  refine (callsIn_wide.1 (pieces_big 4 (by omega) s hs.out w)).mono ?_
  rintro e W' ⟨v, rfl, h, hB⟩
  rw [hn.out] at h
  obtain ⟨a0, cap, rfl⟩ := own_form h
  exact ⟨a0, cap, rfl, h, hB⟩

theorem pieces_mem (s : ByteArray) : ∀ (f pos : Nat) (x : P4), x ∈ piecesFrom s f pos → ∃ p, p < s.size ∧ x = pcF s p
  | 0, pos, x, h => by simp [piecesFrom] at h
  | f + 1, pos, x, h => by
    rw [piecesFrom] at h
    split at h
    · rename_i hp
      rcases List.mem_cons.1 h with rfl | h
      · exact ⟨pos, hp, rfl⟩
      · exact pieces_mem s f _ x h
    · simp at h
theorem piece_place (s : ByteArray) (x : P4) (h : x ∈ pieces s) : 0 ≤ x.2.1 ∧ x.2.1 ≤ (s.size : Int) := by
  obtain ⟨p, hp, rfl⟩ := pieces_mem s _ _ _ h
  unfold pcF
  split <;> simp only <;> omega

/-- all of them have an encoding -/
def AllV (rs : List Int) : Prop := ∀ r ∈ rs, Utf8.valid r = true

set_option maxRecDepth 100000 in
set_option maxHeartbeats 1000000 in
theorem apart_walk (a0 : Option Addr) (len cap : Nat) (z : Nat → Int) (b : ByteArray) (w : World) (hlen : (len : Int) ≤ 1048576) (hb : Hid (b.size ≤ 1048576)) (hbI : (b.size : Int) ≤ 1048576)
    (hrow : Hid (∀ k, k < len → ∃ g off, a0 = some ⟨g, off, none⟩ ∧ w.cell? ⟨g, off + k, none⟩ = some (.int .i32 (z k)))) :
    Calls Try.prog 4 #[.slice a0 len cap, .string b] w fun e w' => e = .returned (.bool true) ∧ Below w.heap.size w w' := by
  go_enter Try.func4, Try.ntmps4
  go_wp2
  go_loop [5, 6, 7] (fun a n i => ∃ (k : Nat) (rs : List Int) (Fa : ByteArray), k ≤ len ∧ i = .int .i64 k ∧ a = .string Fa ∧ n = .int .i64 rs.length ∧ rs.length ≤ k ∧ Hid (Fa = flat rs) ∧ AllV rs ∧ (Fa.size : Int) ≤ 4 * (k : Int)) (fun _ _ i => len - (intOf i).toNat)
  case atStart => exact ⟨0, [], _, by omega, rfl, rfl, rfl, by simp, rfl, (fun r h => by simp at h), by decide⟩
  case round =>
    obtain ⟨k, rs, Fa, hk, rfl, rfl, rfl, hrs, hF, hV, hsz⟩ := hrel
    by_cases hlt : k < len
    · obtain ⟨g, off, hga, hc⟩ := hrow.out k hlt
      subst hga
      have hltI : (k : Int) < (len : Int) := by omega
      cases hv : Utf8.valid (z k) with
      | true =>
        obtain ⟨E, hE⟩ : ∃ E, Hid (Utf8.encode (z k) = E) := ⟨_, rfl⟩
        have hEs : (E.size : Int) ≤ 4 := by rw [← hE.out]; have := enc_size (z k); omega
        have hv' := hide hv
        clear hv
        generalize z k = r at hE hv' hc ⊢
        go_wp2_with (go_at_call 8; refine (encode_is hv' hE _).mono ?_; rintro e w' ⟨rfl, rfl⟩)
        exact ⟨⟨k + 1, rs ++ [r], Fa ++ E, by omega, by go_num, rfl, by simp, by simp; omega, (by show Fa ++ E = flat (rs ++ [r]); rw [flat_snoc, hF.out, hE.out]),
          (fun x hx => by rcases List.mem_append.1 hx with h | h; exact hV x h; simp at h; subst h; exact hv'.out), by rw [ByteArray.size_append]; omega⟩, by simp [intOf]; omega⟩
      | false =>
        have hinv : z k < 0 ∨ 55296 ≤ z k := by
          by_cases h : z k < 0
          · exact .inl h
          · right
            by_cases h' : z k < 55296
            · rw [← valid_yes (z k) (.inl ⟨by omega, h'⟩)] at hv; cases hv
            · omega
        have hv' := hide hv
        clear hv
        generalize z k = r at hv' hc hinv ⊢
        rcases hinv with hinv | hinv
        all_goals
          go_wp2_with (go_at_call 8; refine (encode_no _ _ hv').mono ?_; rintro e w' ⟨rfl, rfl⟩)
          exact ⟨⟨k + 1, rs, Fa, by omega, by go_num, rfl, rfl, by omega, hF, hV, by omega⟩, by simp [intOf]; omega⟩
    · have hge : decide ((k : Int) < (len : Int)) = false := by simp; omega
      have hge2 : decide (k < len) = false := by simp; omega
      obtain ⟨N, hN⟩ : ∃ N, rs.length = N := ⟨_, rfl⟩
      obtain ⟨M, hM⟩ : ∃ M, (pieces b).length = M := ⟨_, rfl⟩
      have hlx : Hid ((pieces Fa).length = N) := by show _ = _; rw [hF.out, pieces_flat rs hV, runesP_len, hN]
      have hlz : Hid ((pieces (Fa ++ b)).length = N + M) := by show _ = _; rw [hF.out, pieces_split rs b hV, List.length_append, runesP_len, List.length_map, hN, hM]
      have hLX : Hid (pieces Fa = runesP 0 rs) := by show _ = _; rw [hF.out, pieces_flat rs hV]
      have hLZ : Hid (pieces (Fa ++ b) = runesP 0 rs ++ (pieces b).map (shift Fa.size)) := by show _ = _; rw [hF.out, pieces_split rs b hV]
      have hMl : M ≤ b.size := by rw [← hM]; exact pieces_len b
      have hNI : (N : Int) ≤ 1048576 := by omega
      have hMI : (M : Int) ≤ 1048576 := by omega
      have hFs : Hid (Fa.size ≤ 8388608) := by show _ ≤ _; omega
      have hFI : (Fa.size : Int) ≤ 4194304 := by omega
      have hbs : Hid (b.size ≤ 8388608) := by show _ ≤ _; have := hb.out; omega
      have hzs : Hid ((Fa ++ b).size ≤ 8388608) := by show _ ≤ _; rw [ByteArray.size_append]; have := hb.out; omega
      have hMh := hide hM
      rw [hN]
      have HN := hide hN
      clear hM hN hlt hk hrs hsz hMl hV
      go_wp2_with fail
      refine (pieces_call Fa hFs N hlx _).mono ?_
      rintro e w1 ⟨ax, cx, rfl, hx, hB1⟩
      go_wp2_with fail
      refine (pieces_call b hbs M hMh _).mono ?_
      rintro e w2 ⟨ay, cy, rfl, hy, hB2⟩
      have hx2 := own_below hx hB2
      have hB12 := hB1.trans (hB2.mono hB1.size)
      clear hx hB1 hB2
      go_wp2_with fail
      refine (pieces_call (Fa ++ b) hzs (N + M) hlz _).mono ?_
      rintro e w3 ⟨az, cz, rfl, hz, hB3⟩
      have hx3 := own_below hx2 hB3
      have hy3 := own_below hy hB3
      have hB4 := hB12.trans (hB3.mono hB12.size)
      clear hx2 hy hB12 hB3
      go_wp2_with fail
      go_loopw [13] (fun i wr => ∃ j nq : Nat, j ≤ N ∧ i = .int .i64 j ∧ wr = w3.drewN nq) (fun i _ => N - (intOf i).toNat)
      case atStart => exact ⟨0, 0, by omega, rfl, rfl⟩
      case round =>
        obtain ⟨j, nq, hj, rfl, rfl⟩ := hrel
        by_cases hlt : j < N
        · obtain ⟨gx, hgx⟩ := own_addr hx3 (by omega)
          obtain ⟨gz, hgz⟩ := own_addr hz (by omega)
          subst hgx hgz
          obtain ⟨p, hp⟩ : ∃ p, (runesP 0 rs)[j]? = some p := ⟨_, List.getElem?_eq_getElem (by rw [runesP_len, HN.out]; exact hlt)⟩
          have hs := runesP_sound 0 rs p (List.mem_of_getElem? hp)
          obtain ⟨x0, x1, x2, x3⟩ := own_piece hx3 hlx j p (by rw [hLX.out]; exact hp)
          obtain ⟨z0, z1, z2, z3⟩ := own_piece hz hlz j p (by rw [hLZ.out, List.getElem?_append_left (List.getElem?_eq_some_iff.1 hp).1]; exact hp)
          obtain ⟨p0, p1, p2, p3⟩ := p
          simp only at x0 x1 x2 x3 z0 z1 z2 z3 hs
          subst hs
          have hltI : (j : Int) < (N : Int) := by omega
          have hltZ : (j : Int) < ((N + M : Nat) : Int) := by omega
          have hltZ2 : (j : Int) < (N : Int) + (M : Int) := by omega
          have hj0 : (0 : Int) ≤ (j : Int) := by omega
          clear hp
          go_wp2
          go_quiet (fail)
          go_wp2
          exact ⟨⟨j + 1, _, by omega, by go_num, rfl⟩, by simp [intOf]; omega⟩
        · have hgej : decide ((j : Int) < (N : Int)) = false := by simp; omega
          have hgej2 : decide (j < N) = false := by simp; omega
          clear hlt hj
          go_wp2_with fail
          go_loopw [14] (fun i wr => ∃ m nr : Nat, m ≤ M ∧ i = .int .i64 m ∧ wr = w3.drewN nr) (fun i _ => M - (intOf i).toNat)
          case atStart => exact ⟨0, nq, by omega, rfl, rfl⟩
          case round =>
            obtain ⟨m, nr, hm, rfl, rfl⟩ := hrel
            by_cases hlt : m < M
            · obtain ⟨gy, hgy⟩ := own_addr hy3 (by omega)
              obtain ⟨gz, hgz⟩ := own_addr hz (by omega)
              subst hgy hgz
              obtain ⟨p, hp⟩ : ∃ p, (pieces b)[m]? = some p := ⟨_, List.getElem?_eq_getElem (by rw [hMh.out]; exact hlt)⟩
              have hbd := piece_place b p (List.mem_of_getElem? hp)
              obtain ⟨y0, y1, y2, y3⟩ := own_piece hy3 hMh m p hp
              obtain ⟨z0, z1, z2, z3⟩ := own_piece hz hlz (N + m) (shift Fa.size p) (by
                rw [hLZ.out, List.getElem?_append_right (by rw [runesP_len, HN.out]; omega), runesP_len, HN.out, Nat.add_sub_cancel_left, List.getElem?_map, hp]; rfl)
              obtain ⟨p0, p1, p2, p3⟩ := p
              simp only [shift] at y0 y1 y2 y3 z0 z1 z2 z3 hbd
              obtain ⟨l1, l2⟩ := hbd
              have l3 : p1 ≤ 1048576 := by omega
              have hltI : (m : Int) < (M : Int) := by omega
              have hltZ2 : (N : Int) + (m : Int) < (N : Int) + (M : Int) := by omega
              have hltZ3 : (0 : Int) ≤ (N : Int) + (m : Int) := by omega
              clear hp l2
              go_wp2
              go_quiet (fail)
              go_wp2
              exact ⟨⟨m + 1, _, by omega, by go_num, rfl⟩, by simp [intOf]; omega⟩
            · have hgem : decide ((m : Int) < (M : Int)) = false := by simp; omega
              have hgem2 : decide (m < M) = false := by simp; omega
              go_wp2
              go_ret
              exact ⟨rfl, below_drewN hB4 _⟩
end Go.Proofs.Ytahcdignedfanaa.Ap
