import Derived.Test.YtchealdgncgjoaaItDU
namespace Go.Proofs.Ytchealdgncgjoaa.StU
open Go.RowKit Go.Proofs.Ytchealdgncgjoaa.St
set_option linter.unusedVariables false

theorem kn_set {w : World} {mb : Nat} {c : Array Value} (h1 : w.heap[mb]? = some (.cells c 208 (0, 0))) (o : Nat) (u : Value) : Kn w (w.setCell ⟨mb, o, none⟩ u) :=
  Kn.of (Kp.setCell w ⟨mb, o, none⟩ u) (fun b c hb e => by
    have e : b = mb := e
    subst e; rw [h1] at hb; cases hb)
theorem Mp.set {w : World} {mb : Nat} {a a' : Option Addr} {t' : T (Int × Sv)} (h1 : w.heap[mb]? = some (.cells #[.func (.func 164) #[] #[], .pointer a] 208 (0, 0))) (ht : Tr w t' a') (hb : t'.bal) (hs : Srt cmpI t'.xs) :
    Mp (w.setCell ⟨mb, 1, none⟩ (.pointer a')) mb t' :=
  ⟨⟨a', by rw [set3 h1]; rfl, ht.keep (kn_set h1 _ _)⟩, hb, hs⟩
section
variable {w : World} {mb : Nat} {t : T (Int × Sv)}
set_option maxRecDepth 100000 in
set_option maxHeartbeats 1000000 in
theorem put_any (h : Mp w mb t) (k : Int) (v : Sv) (hs : t.sz + 1 < 2 ^ 62) :
    Calls Try.prog 120 #[.pointer (some ⟨mb, 0, none⟩), .int .u64 (k), .slice (v).a (v).n (v).c] w fun e w' => e = .returned (.tuple #[ov (getT k t), .bool (T.fd (sd k) t).2]) ∧ Mp w' mb (putT k v t) ∧ Kp (fun i => i = mb) w w' := by
  have hpb := put_bal (k := k) (v := v) h.bal
  have hps := put_srt (k := k) (v := v) h.srt
  have hbal := h.bal
  obtain ⟨a, h1, h2⟩ := h.ex
  have MA := made_any h1
  have FA := find_any h1 h2 k (by omega)
  have c1 : w.cell? ⟨mb, 1, none⟩ = some (.pointer a) := by simp [World.cell?, h1]
  have HFF : ∀ W, Kp Nu w W → W.frozen? ⟨mb, 1, none⟩ = false ∧ W.cell? ⟨mb, 1, none⟩ = some (.pointer a) := fun W q => by
    have := (q.block _ (blk_lt h1) (fun h => h)).trans h1
    exact ⟨free3 this 1, by simp [World.cell?, this]⟩
  have H1 : Hid (∀ W, Kp Nu w W → W.heap[mb]? = some (.cells #[.func (.func 164) #[] #[], .pointer a] 208 (0, 0))) := fun W q => (q.block _ (blk_lt h1) (fun h => h)).trans h1
  cases hb : (T.fd (sd k) t).2 with
  | false =>
    have eg : getT k t = none := by unfold getT; rw [hb]; rfl
    have ep : putT k v t = t.ins (T.fd (sd k) t).1 (k, v) := by unfold putT; rw [hb]; rfl
    rw [eg]
    rw [hb] at FA
    have hle := (T.fd_le (sd k) t).1
    rw [ep] at hpb hps
    generalize (T.fd (sd k) t).1 = i at *
    have IA : ∀ W, Kp Nu w W → Calls Try.prog 168 #[.pointer a, .int .i64 (i : Int), .int .u64 (k), .slice (v).a (v).n (v).c] W fun e w' => ∃ a', e = .returned (.pointer a') ∧ Tr w' (t.ins i (k, v)) a' ∧ Kp Nu w w' := fun W q =>
      (insert_any k v t W a i (h2.nu q) hbal (by omega) hle).mono fun e w' ⟨a', e1, e2, e3⟩ => ⟨a', e1, e2, q.andNu e3⟩
    have HP : Hid ((t.ins i (k, v)).bal ∧ Srt cmpI (t.ins i (k, v)).xs ∧ putT k v t = t.ins i (k, v)) := ⟨hpb, hps, ep⟩
    clear h h1 h2 hbal hpb hps hle ep eg hb hs
    go_enter Try.func120, Try.ntmps120
    go_wp2_with (first
      | (go_at_call 167; refine MA.mono ?_; rintro e w' ⟨rfl, hw⟩; obtain rfl := hw.symm)
      | (go_at_call 165; refine FA.mono ?_; rintro e w1 ⟨rfl, k1⟩)
      | (go_at_call 168; refine (IA _ k1).mono ?_; rintro e w2 ⟨a', rfl, t2, k2⟩; obtain ⟨f2, d2⟩ := HFF _ k2))
    go_ret2
    refine ⟨rfl, ?_, ?_⟩
    · rw [HP.out.2.2]; exact Mp.set (H1.out _ k2) t2 HP.out.1 HP.out.2.1
    · exact (k2.mono (fun _ _ h => h.elim)).trans (Kp.setCell _ _ _) (fun _ _ h => h)
  | true =>
    obtain ⟨p, hp, eg⟩ := getT_some hb
    have ep : putT k v t = t.rep (T.fd (sd k) t).1 (fun p => (p.1, v)) := by unfold putT; rw [hb]; rfl
    rw [eg]
    rw [hb] at FA
    have hlt := (T.fd_le (sd k) t).2 hb
    rw [ep] at hpb hps
    have hat := atT_xs t (T.fd (sd k) t).1
    rw [hp] at hat
    generalize (T.fd (sd k) t).1 = i at *
    have IA : ∀ W, Kp Nu w W → Calls Try.prog 169 #[.pointer a, .int .i64 (i : Int), .slice (v).a (v).n (v).c] W fun e w' => ∃ a', e = .returned (.pointer a') ∧ Tr w' (t.rep i (fun p => (p.1, v))) a' ∧ Kp Nu w w' := fun W q =>
      (replace_any v t W a i (h2.nu q) (by omega) hlt).mono fun e w' ⟨a', e1, e2, e3⟩ => ⟨a', e1, e2, q.andNu e3⟩
    have AT : ∀ W u, Kp Nu w W → Calls Try.prog 166 #[.pointer a, .int .i64 (i : Int)] (W.setCell ⟨mb, 1, none⟩ u) fun e w' => ∃ b, e = .returned (.pointer (some ⟨b, 0, none⟩)) ∧ w'.cell? ⟨b, 1, none⟩ = some (.slice (p.2).a (p.2).n (p.2).c) ∧ w' = W.setCell ⟨mb, 1, none⟩ u := fun W u q => by
      refine (at_any ((h2.nu q).keep (kn_set (H1.out W q) 1 u)) (i : Int) (by omega) (by omega)).mono ?_
      rintro e w' ⟨a', rfl, hn, rfl⟩
      rw [hat] at hn
      obtain ⟨b, x2, x3, x4, x5, rfl, hb⟩ := hn
      exact ⟨b, rfl, (cell6 hb).2.1, rfl⟩
    have HP : Hid ((t.rep i (fun p => (p.1, v))).bal ∧ Srt cmpI (t.rep i (fun p => (p.1, v))).xs ∧ putT k v t = t.rep i (fun p => (p.1, v))) := ⟨hpb, hps, ep⟩
    clear h h1 h2 hbal hpb hps hlt ep eg hb hs hp hat
    go_enter Try.func120, Try.ntmps120
    go_wp2_with (first
      | (go_at_call 167; refine MA.mono ?_; rintro e w' ⟨rfl, hw⟩; obtain rfl := hw.symm)
      | (go_at_call 165; refine FA.mono ?_; rintro e w1 ⟨rfl, k1⟩)
      | (go_at_call 169; refine (IA _ k1).mono ?_; rintro e w2 ⟨a', rfl, t2, k2⟩; obtain ⟨f2, d2⟩ := HFF _ k2)
      | (go_at_call 166; refine (AT _ _ k2).mono ?_; rintro e w3 ⟨b3, rfl, c3, hw3⟩; obtain rfl := hw3.symm))
    go_ret2
    refine ⟨rfl, ?_, ?_⟩
    · rw [HP.out.2.2]; exact Mp.set (H1.out _ k2) t2 HP.out.1 HP.out.2.1
    · exact (k2.mono (fun _ _ h => h.elim)).trans (Kp.setCell _ _ _) (fun _ _ h => h)

set_option maxRecDepth 100000 in
set_option maxHeartbeats 1000000 in
theorem del_any (h : Mp w mb t) (k : Int) (hs : t.sz + 1 < 2 ^ 62) :
    Calls Try.prog 179 #[.pointer (some ⟨mb, 0, none⟩), .int .u64 (k)] w fun e w' => e = .returned (.tuple #[ov (getT k t), .bool (T.fd (sd k) t).2]) ∧ Mp w' mb (delT k t) ∧ Kp (fun i => i = mb) w w' := by
  have hpb := del_bal (k := k) h.bal
  have hps := del_srt (k := k) h.srt
  have hbal := h.bal
  have H0 : Hid (∀ W, Kp Nu w W → Mp W mb t) := fun W q => h.nu q
  obtain ⟨a, h1, h2⟩ := h.ex
  have TA := tree_any h1
  have FA := find_any h1 h2 k (by omega)
  have HFF : ∀ W, Kp Nu w W → W.frozen? ⟨mb, 1, none⟩ = false ∧ W.cell? ⟨mb, 1, none⟩ = some (.pointer a) := fun W q => by
    have := (q.block _ (blk_lt h1) (fun h => h)).trans h1
    exact ⟨free3 this 1, by simp [World.cell?, this]⟩
  have H1 : Hid (∀ W, Kp Nu w W → W.heap[mb]? = some (.cells #[.func (.func 164) #[] #[], .pointer a] 208 (0, 0))) := fun W q => (q.block _ (blk_lt h1) (fun h => h)).trans h1
  cases hb : (T.fd (sd k) t).2 with
  | false =>
    have eg : getT k t = none := by unfold getT; rw [hb]; rfl
    have ep : delT k t = t := by unfold delT; rw [hb]; rfl
    rw [eg, ep]
    rw [hb] at FA
    generalize (T.fd (sd k) t).1 = i at *
    clear h h1 h2 hbal hpb hps ep eg hb hs
    go_enter Try.func179, Try.ntmps179
    go_wp2_with (first
      | (go_at_call 129; refine TA.mono ?_; rintro e w' ⟨rfl, hw⟩; obtain rfl := hw.symm)
      | (go_at_call 165; refine FA.mono ?_; rintro e w1 ⟨rfl, k1⟩))
    go_ret2
    exact ⟨rfl, H0.out _ k1, k1.mono (fun _ _ h => h.elim)⟩
  | true =>
    obtain ⟨p, hp, eg⟩ := getT_some hb
    have ep : delT k t = t.rem (T.fd (sd k) t).1 := by unfold delT; rw [hb]; rfl
    rw [eg]
    rw [hb] at FA
    have hlt := (T.fd_le (sd k) t).2 hb
    rw [ep] at hpb hps
    have hat := atT_xs t (T.fd (sd k) t).1
    rw [hp] at hat
    generalize (T.fd (sd k) t).1 = i at *
    have IA : ∀ W, Kp Nu w W → Calls Try.prog 204 #[.pointer a, .int .i64 (i : Int)] W fun e w' => ∃ a', e = .returned (.pointer a') ∧ Tr w' (t.rem i) a' ∧ Kp Nu w w' := fun W q =>
      (remove_any t W a i (h2.nu q) hbal (by omega) hlt).mono fun e w' ⟨a', e1, e2, e3⟩ => ⟨a', e1, e2, q.andNu e3⟩
    have AT : ∀ W u, Kp Nu w W → Calls Try.prog 166 #[.pointer a, .int .i64 (i : Int)] (W.setCell ⟨mb, 1, none⟩ u) fun e w' => ∃ b, e = .returned (.pointer (some ⟨b, 0, none⟩)) ∧ w'.cell? ⟨b, 1, none⟩ = some (.slice (p.2).a (p.2).n (p.2).c) ∧ w' = W.setCell ⟨mb, 1, none⟩ u := fun W u q => by
      refine (at_any ((h2.nu q).keep (kn_set (H1.out W q) 1 u)) (i : Int) (by omega) (by omega)).mono ?_
      rintro e w' ⟨a', rfl, hn, rfl⟩
      rw [hat] at hn
      obtain ⟨b, x2, x3, x4, x5, rfl, hb⟩ := hn
      exact ⟨b, rfl, (cell6 hb).2.1, rfl⟩
    have HP : Hid ((t.rem i).bal ∧ Srt cmpI (t.rem i).xs ∧ delT k t = t.rem i) := ⟨hpb, hps, ep⟩
    clear h h1 h2 hbal hpb hps hlt ep eg hb hs hp hat H0
    go_enter Try.func179, Try.ntmps179
    go_wp2_with (first
      | (go_at_call 129; refine TA.mono ?_; rintro e w' ⟨rfl, hw⟩; obtain rfl := hw.symm)
      | (go_at_call 165; refine FA.mono ?_; rintro e w1 ⟨rfl, k1⟩)
      | (go_at_call 204; refine (IA _ k1).mono ?_; rintro e w2 ⟨a', rfl, t2, k2⟩; obtain ⟨f2, d2⟩ := HFF _ k2)
      | (go_at_call 166; refine (AT _ _ k2).mono ?_; rintro e w3 ⟨b3, rfl, c3, hw3⟩; obtain rfl := hw3.symm))
    go_ret2
    refine ⟨rfl, ?_, ?_⟩
    · rw [HP.out.2.2]; exact Mp.set (H1.out _ k2) t2 HP.out.1 HP.out.2.1
    · exact (k2.mono (fun _ _ h => h.elim)).trans (Kp.setCell _ _ _) (fun _ _ h => h)
end
end Go.Proofs.Ytchealdgncgjoaa.StU
