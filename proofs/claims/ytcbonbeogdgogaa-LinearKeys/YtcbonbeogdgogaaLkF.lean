import Derived.Test.YtcbonbeogdgogaaLkE
import Derived.Test.YtcbonbeogdgogaaLrK
namespace Go.Proofs.Ytcbonbeogdgogaa.Li
open Go.RowKit
set_option linter.unusedVariables false
theorem info5z : (Try.prog.info? 5).map (fun i => (i.zero, i.size, i.bytes)) = some (some (.int .u8 0), 1, 1) := by kernel_rfl
theorem can_made {w1 : World} {base g N : Nat} (h : w1.ownsRow base 5 1 (.slice (some ⟨g, 0, none⟩) N N) N (madeCells (Value.int .u8 0).cells (N * 1)).toList) : ∃ cur : Array Value, w1.heap[g]? = some (.cells cur 5 (0, 0)) ∧ ∀ st, st < N → cur[st]? = some (.int .u8 0) := by
  rcases h.2 with ⟨e, _⟩ | ⟨g', cap, cur, e, hb', hg, h1, h2, h3, h4⟩
  · cases e
  · cases e
    have hz : (Value.int .u8 0).cells = #[.int .u8 0] := rfl
    rw [hz, toList_madeCells_one, Nat.mul_one] at h4
    refine ⟨cur, hg, fun q hq => ?_⟩
    have e := congrArg (fun l => l[q]?) h4
    rw [List.getElem?_take_of_lt hq, List.getElem?_replicate] at e
    simpa [hq] using e
/-- the order that has been laid: the rest is the first one that comes of where it stands -/
inductive Way (D : Sch) : List Nat → Nat → Nat → Prop
  | start : Way D [] 0 0
  | step {o : List Nat} {st s : Nat} (k a : Nat) : Way D o st s → ¬ subs D.must st → D.may st k → D.T k s = some a → (∀ j, j < k → D.may st j → ∀ b, D.T j s = some b → ¬ Can D (st ||| 2 ^ j) b) → Way D (o ++ [k]) (st ||| 2 ^ k) a
theorem Way.fir {D : Sch} {o : List Nat} {st s : Nat} (h : Way D o st s) : ∀ e, Fir D st s e → Fir D 0 0 (o ++ e) := by
  induction h with
  | start => intro e he; exact he
  | step k a h1 h2 h3 h4 h5 ih =>
    intro e he
    rw [List.append_assoc]
    exact ih _ (.step k a e h2 h3 h4 h5 he)
theorem Way.len {D : Sch} {o : List Nat} {st s : Nat} (h : Way D o st s) : o.length ≤ st := by
  induction h with
  | start => exact Nat.le_refl _
  | step k a h1 h2 h3 h4 h5 ih =>
    rw [List.length_append]
    have := put_gt h3.2.1
    show _ + 1 ≤ _
    omega
/-- two orders that are the first are one -/
theorem Fir.unique {D : Sch} {st s : Nat} {a : List Nat} (h : Fir D st s a) : ∀ {b : List Nat}, Fir D st s b → a = b := by
  induction h with
  | done h =>
    intro b hb
    cases hb with
    | done _ => rfl
    | step k a e h1 => exact absurd h h1
  | step k a e h1 h2 h3 h4 h5 ih =>
    intro b hb
    cases hb with
    | done h => exact absurd h h1
    | step k' a' e' g1 g2 g3 g4 g5 =>
      have hk : k = k' := by
        rcases Nat.lt_trichotomy k k' with q | q | q
        · exact absurd h5.can (g4 k q h2 a h3)
        · exact q
        · exact absurd g5.can (h4 k' q g2 a' g3)
      subst hk
      rw [h3] at g3
      cases g3
      rw [ih g5]
theorem Tm.kt {w0 w w' : World} {b bt : Nat} {u : Value} {L : List Ca} {dd : Nat → Nat} (h : Tm w0 w b bt u L dd) (k : KT 3 w w') (k0 : Kp Nu w0 w') : Tm w0 w' b bt u L dd := by
  obtain ⟨cur, h1, h2⟩ := h.can
  exact ⟨k0, k _ _ _ (by decide) h.box, ⟨cur, k _ _ _ (by decide) h1, h2⟩, h.lo, h.le⟩
/-- where Order's rounds stand -/
structure OI (w wr : World) (b bt : Nat) (u : Value) (L : List Ca) (dd : Nat → Nat) (o : List Nat) (oa : Option Addr) (oc st s : Nat) : Prop where
  tm : Tm w wr b bt u L dd
  row : wr.ownsRow w.heap.size 3 1 (.slice oa o.length oc) o.length (ints o)
  way : Way (schOf L) o st s
  can : Can (schOf L) st s
  snd : Snd L dd 0
  lt : st < 2 ^ L.length ∧ s ≤ L.length
theorem OI.find {w wr wx wf : World} {b bt : Nat} {u : Value} {L : List Ca} {dd dj : Nat → Nat} {o : List Nat} {oa : Option Addr} {oc st s st2 : Nat} (h : OI w wr b bt u L dd o oa oc st s) (k : Kp Nu wr wx) (hT : Tm w wf b bt u L dj) (hk : Kp (fun x => x = bt) wx wf) (hS : Snd L dj st2) (hlow : ∀ k, k < st2 * (L.length + 1) → dj k = dd k) : OI w wf b bt u L dj o oa oc st s := by
  refine ⟨hT, ?_, h.way, h.can, fun a c h1 h2 h3 => ?_, h.lt⟩
  · have r1 := own_keep h.row (fun g hg => k.block g (own_lt h.row hg) (fun q => q))
    refine own_keep r1 (fun g hg => hk.block g (own_lt r1 hg) (fun e => ?_))
    have e : g = bt := e
    subst e
    obtain ⟨c1, hc1⟩ := own_obj r1 hg
    obtain ⟨cur, hc2, _⟩ := (h.tm.nu k).can
    rw [hc2] at hc1
    simp at hc1
  · by_cases e : st2 ≤ a
    · exact hS a c e h2 h3
    · rw [hlow _ (ix_lt (by omega) h3)]
      exact h.snd a c h1 h2 h3
theorem OI.nu {w wr wx : World} {b bt : Nat} {u : Value} {L : List Ca} {dd : Nat → Nat} {o : List Nat} {oa : Option Addr} {oc st s : Nat} (h : OI w wr b bt u L dd o oa oc st s) (k : Kp Nu wr wx) : OI w wx b bt u L dd o oa oc st s :=
  ⟨h.tm.nu k, own_keep h.row (fun g hg => k.block g (own_lt h.row hg) (fun q => q)), h.way, h.can, h.snd, h.lt⟩
/-- a call laid behind the order -/
theorem OI.put {w wr w3 : World} {b bt : Nat} {u : Value} {L : List Ca} {dd : Nat → Nat} {o : List Nat} {oa : Option Addr} {oc st s i m g3 cap3 : Nat} (h : OI w wr b bt u L dd o oa oc st s) (hm : m ≤ L.length) (hnm : ¬ subs (schOf L).must st) (hmay : (schOf L).may st i) (hT : (schOf L).T i s = some m) (hno : ∀ j, j < i → (schOf L).may st j → ∀ a, (schOf L).T j s = some a → ¬ Can (schOf L) (st ||| 2 ^ j) a) (hc : Can (schOf L) (st ||| 2 ^ i) m)
    (hrow : w3.ownsRow w.heap.size 3 1 (.slice (some ⟨g3, 0, none⟩) (o.length + 1) cap3) (o.length + 1) (ints o ++ [.int .i64 (i : Int)])) (hgr : (wr.alloc (.cells #[.int .i64 (i : Int)] 3)).grownBy w3 (Value.slice oa o.length oc).ownBlock) :
    OI w w3 b bt u L dd (o ++ [i]) (some ⟨g3, 0, none⟩) cap3 (st ||| 2 ^ i) m := by
  have ka : Kp Nu wr (wr.alloc (.cells #[.int .i64 (i : Int)] 3)) := Kp.alloc _ _ _
  have h1 := h.nu ka
  have k3 : Kp Nu w w3 := h1.tm.kp.trans (Kp.of_grown hgr) (fun x hx e => by have := own_ge h1.row e.symm; omega)
  refine ⟨h1.tm.kt (KT.grown h1.row hgr) k3, ?_, .step i m h.way hnm hmay hT hno, hc, h.snd, put_lt h.lt.1 hmay.1, hm⟩
  rw [List.length_append, ints_snoc]
  exact hrow
/-- what Order answers -/
def OrR (w : World) (L : List Ca) (e : Ending) (w' : World) : Prop :=
  (¬ Can (schOf L) 0 0 ∧ e = .returned (.tuple #[.slice none 0 0, .bool false]) ∧ Kp Nu w w') ∨
  ∃ o oa oc, Fir (schOf L) 0 0 o ∧ e = .returned (.tuple #[.slice oa o.length oc, .bool true]) ∧ w'.ownsRow w.heap.size 3 1 (.slice oa o.length oc) o.length (ints o) ∧ Kp Nu w w'
/-- where the inner rounds stand -/
structure OJ (w wr : World) (b bt : Nat) (u : Value) (L : List Ca) (dd : Nat → Nat) (o : List Nat) (oa : Option Addr) (oc st s i : Nat) : Prop where
  oi : OI w wr b bt u L dd o oa oc st s
  no : ∀ j, j < i → (schOf L).may st j → ∀ a, (schOf L).T j s = some a → ¬ Can (schOf L) (st ||| 2 ^ j) a
theorem OJ.skip {w wr wx : World} {b bt : Nat} {u : Value} {L : List Ca} {dd : Nat → Nat} {o : List Nat} {oa : Option Addr} {oc st s i : Nat} (h : OJ w wr b bt u L dd o oa oc st s i) (k : Kp Nu wr wx) (hno : ∀ a, (schOf L).may st i → (schOf L).T i s ≠ some a) : OJ w wx b bt u L dd o oa oc st s (i + 1) := by
  refine ⟨h.oi.nu k, fun j hj hm a ha => ?_⟩
  by_cases e : j = i
  · subst e; exact absurd ha (hno a hm)
  · exact h.no j (by omega) hm a ha
theorem OJ.tried {w wr wx wf : World} {b bt : Nat} {u : Value} {L : List Ca} {dd dj : Nat → Nat} {o : List Nat} {oa : Option Addr} {oc st s i m : Nat} (h : OJ w wr b bt u L dd o oa oc st s i) (k : Kp Nu wr wx) (hT : Tm w wf b bt u L dj) (hk : Kp (fun x => x = bt) wx wf) (hS : Snd L dj (st ||| 2 ^ i)) (hlow : ∀ k, k < (st ||| 2 ^ i) * (L.length + 1) → dj k = dd k) (hno : ¬ Can (schOf L) (st ||| 2 ^ i) m) (hT2 : (schOf L).T i s = some m) : OJ w wf b bt u L dj o oa oc st s (i + 1) := by
  refine ⟨h.oi.find k hT hk hS hlow, fun j hj hm a ha => ?_⟩
  by_cases e : j = i
  · subst e
    rw [hT2] at ha
    cases ha
    exact hno
  · exact h.no j (by omega) hm a ha
theorem OJ.end_ {w wr : World} {b bt : Nat} {u : Value} {L : List Ca} {dd : Nat → Nat} {o : List Nat} {oa : Option Addr} {oc st s : Nat} (h : OJ w wr b bt u L dd o oa oc st s L.length) (hnm : ¬ subs (schOf L).must st) : False := by
  cases h.oi.can with
  | done q => exact hnm q
  | step k a q1 q2 q3 => exact h.no k q1.1 q1 a q2 q3
theorem meas {K st st2 : Nat} (h : st < K) (h2 : st < st2) : K - (st2 : Int).toNat < K - (st : Int).toNat := by omega
theorem small {n l st X : Nat} (h1 : l = n) (h2 : l ≤ st) (h3 : st < X) (h4 : X ≤ 65536) : n < 65536 := by omega
theorem ml {n : Nat} (h : n < 65536) : n + 1 ≤ maxLen ∧ (n + 1) * 8 ≤ 140737488355328 := ⟨by unfold maxLen; omega, by omega⟩
theorem g1114 {G : Nat} (h : G < 65536) : (0 : Int) ≤ (G : Int) ∧ (G : Int) ≤ 1114112 := by omega
theorem snd_zero {L : List Ca} : Snd L (fun _ => 0) 0 := fun st s h1 h2 h3 => ⟨(fun h => by cases h), (fun h => by cases h)⟩
theorem tm_made {w w4 : World} {bt : Nat} {u : Value} {L : List Ca} (k : Kp Nu w w4) (hbt : w.heap.size ≤ bt) (hlt : bt < w4.heap.size) (hc : ∃ cur : Array Value, w4.heap[bt]? = some (.cells cur 5 (0, 0)) ∧ ∀ st, st < Mx L → cur[st]? = some (.int .u8 0)) : Tm w (w4.alloc (.cells #[u, .slice (some ⟨bt, 0, none⟩) (Mx L) (Mx L)] 115)) w4.heap.size bt u L (fun _ => 0) := by
  obtain ⟨cur, h1, h2⟩ := hc
  have k5 : Kp Nu w4 (w4.alloc (.cells #[u, .slice (some ⟨bt, 0, none⟩) (Mx L) (Mx L)] 115)) := Kp.alloc _ _ _
  exact ⟨k.andNu k5, heap_new w4 _, ⟨cur, box_k h1 k5, h2⟩, ⟨k.size, hbt, by omega⟩, fun _ => by omega⟩
set_option maxRecDepth 100000 in
set_option maxHeartbeats 1500000 in
theorem order49 (w : World) (u : Value) (L : List Ca) (hL : Cls w u L) (hM : AllMB L) (hN : L.length ≤ 16) : Calls Try.prog 49 #[u] w fun e w' => OrR w L e w' := by
  obtain ⟨ua, uc, rfl⟩ := hL.slice
  obtain ⟨N, eN⟩ : ∃ N, L.length = N := ⟨_, rfl⟩
  obtain ⟨M, eM⟩ : ∃ M, Mx L = M := ⟨_, rfl⟩
  obtain ⟨K, eK⟩ : ∃ K, 2 ^ L.length = K := ⟨_, rfl⟩
  have hM17 := mx_le hN
  have hNI : (N : Int) ≤ 16 := by omega
  have hN0 : (0 : Int) ≤ (N : Int) := by omega
  have etN : (N : Int).toNat = N := by omega
  have hN32 : (N : Int) ≤ 32 := by omega
  have eMI : ((N : Int) + 1) * 2 ^ N = (M : Int) := by rw [← eM, ← eN]; unfold Mx; simp
  have hMI0 : (0 : Int) ≤ (M : Int) := by omega
  have hMI : (M : Int) ≤ 1114112 := by omega
  obtain ⟨v1, v2⟩ := w64 hMI0 hMI
  have HA := hide (And.intro hL (And.intro hM (And.intro hN (And.intro eN (And.intro eM eK)))))
  clear hL hM hN eN eM eK hM17
  obtain ⟨z0, hzi, hz0, hz1, hz2⟩ := info_parts info5z
  obtain ⟨y0, hyi, hy0, hy1, hy2⟩ := info_parts info3z
  rw [HA.out.2.2.2.1]
  go_enter Try.func49, Try.ntmps49
  go_wp2_with (at_make; refine wpList_make_full _ rfl _ _ 25 rfl w.heap.size 5 z0 _ 1 Try.underlying25 hzi hz0 hz1 _ _ _ _ M rfl rfl rfl rfl (by rw [hz2]; omega) (by unfold maxLen; omega) (Nat.le_refl _) ?_; intro w4 hrow4 hgr4)
  have hd4 := can_made hrow4
  have k4 : Kp Nu w w4 := (Kp.of_grown hgr4).mono (fun _ _ e => by cases e)
  have hlt4 : w.heap.size < w4.heap.size := by obtain ⟨cur, h1, _⟩ := hd4; exact blk_lt h1
  have hT := tm_made (u := .slice ua L.length uc) (L := L) k4 (Nat.le_refl _) hlt4 (by rw [HA.out.2.2.2.2.1]; exact hd4)
  rw [HA.out.2.2.2.1, HA.out.2.2.2.2.1] at hT
  obtain ⟨w5, e5⟩ : ∃ w5, w4.alloc (.cells #[.slice ua N uc, .slice (some ⟨w.heap.size, 0, none⟩) M M] 115) = w5 := ⟨_, rfl⟩
  rw [e5] at hT
  obtain ⟨b, eb⟩ : ∃ b, w4.heap.size = b := ⟨_, rfl⟩
  rw [eb] at hT
  have hcls := HA.out.1
  rw [HA.out.2.2.2.1] at hcls
  have FD := fun (st : Nat) (hst : st < 2 ^ L.length) (wx : World) (s : Nat) (dd : Nat → Nat) (hs : s ≤ L.length) (hTx : Tm w wx b w.heap.size (.slice ua N uc) L dd) (hSx : Snd L dd st) => find80 (b := b) (bt := w.heap.size) hcls HA.out.2.1 HA.out.2.2.1 (2 ^ L.length) st (Nat.le_add_left _ _) wx s dd hst hs hTx hSx
  have F0 := FD 0 (Nat.pow_pos (by decide)) w5 0 (fun _ => 0) (Nat.zero_le _) hT snd_zero
  have HT := hide (And.intro hT (And.intro hcls FD))
  clear hrow4 hgr4 hd4 k4 hlt4 hT hcls FD
  go_wp2_with fail
  try rw [e5]
  try rw [eb]
  refine F0.mono ?_; rintro e w6 ⟨r, d6, rfl, hT6, hk6, hS6, hlow6, hr6⟩
  cases r with
  | false =>
    have HR : Hid (OrR w L (.returned (.tuple #[.slice none 0 0, .bool false])) w6) := hide (.inl ⟨(fun hc => by have := hr6.2 hc; cases this), rfl, hT6.kp⟩)
    clear F0 hT6 hk6 hS6 hlow6 hr6
    go_wp2
    go_ret2
    exact HR.out
  | true =>
  have H0 : Hid (OI w w6 b w.heap.size (.slice ua N uc) L d6 [] none 0 0 0) := hide ⟨hT6, World.ownsRow_nil _ _ _ _, .start, hr6.1 rfl, hS6, Nat.pow_pos (by decide), Nat.zero_le _⟩
  clear F0 hT6 hk6 hS6 hlow6 hr6 e5 eb eMI v1 v2
  go_wp2
  go_loopw [5, 6, 7] (fun ov sv yv wr => ∃ (o : List Nat) (oa : Option Addr) (oc st s n : Nat) (dd : Nat → Nat), ov = .slice oa n oc ∧ sv = .int .i64 (st : Int) ∧ yv = .int .i64 (s : Int) ∧ Hid (OI w wr b w.heap.size (.slice ua N uc) L dd o oa oc st s ∧ o.length = n)) (fun _ sv _ _ => K - (intOf sv).toNat)
  case atStart => exact ⟨[], none, 0, 0, 0, 0, d6, rfl, rfl, rfl, hide ⟨H0.out, rfl⟩⟩
  case round =>
    clear H0
    obtain ⟨o, oa, oc, st, s, n, dd, rfl, rfl, rfl, hI⟩ := hrel
    obtain ⟨wl, rfl⟩ : ∃ wl : World, wl = wr := ⟨_, rfl⟩
    have hst6 : st < 65536 := Nat.lt_of_lt_of_le hI.out.1.lt.1 (two16 HA.out.2.2.1)
    have hs0 : (0 : Int) ≤ (st : Int) := by omega
    have CO := complete81 w wl hI.out.1.tm.kp b _ _ L HT.out.2.1 hI.out.1.tm.box st hst6 HA.out.2.2.1
    clear hst6
    go_wp2_with fail
    refine CO.mono ?_; rintro e wc ⟨⟨bc, rfl, hbc⟩, hkc⟩
    cases bc with
    | true =>
      have HR : Hid (OrR w L (.returned (.tuple #[.slice oa n oc, .bool true])) wc) := hide (.inr ⟨o, oa, oc, by have q := hI.out.1.way.fir [] (.done (hbc.1 rfl)); rw [List.append_nil] at q; exact q, by rw [hI.out.2], (hI.out.1.nu hkc).row, (hI.out.1.nu hkc).tm.kp⟩)
      clear CO hbc hkc
      go_wp2
      go_ret2
      exact HR.out
    | false =>
    have HN : Hid (¬ subs (schOf L).must st) := hide (fun h => by have := hbc.2 h; cases this)
    have HJ0 : Hid (OJ w wc b w.heap.size (.slice ua N uc) L dd o oa oc st s 0) := hide ⟨hI.out.1.nu hkc, fun j hj => by omega⟩
    clear CO hbc hkc
    go_wp2
    go_loopw [5, 6, 7, 8] (fun ov sv yv iv wr => ∃ (i : Nat) (di : Nat → Nat), ov = .slice oa n oc ∧ sv = .int .i64 (st : Int) ∧ yv = .int .i64 (s : Int) ∧ iv = .int .i64 (i : Int) ∧ i ≤ N ∧ Hid (OJ w wr b w.heap.size (.slice ua N uc) L di o oa oc st s i)) (fun _ _ _ iv _ => N - (intOf iv).toNat)
    case atStart => exact ⟨0, dd, rfl, rfl, rfl, rfl, Nat.zero_le _, HJ0⟩
    case round =>
      clear HJ0
      obtain ⟨i, di, rfl, rfl, rfl, rfl, hi, hJ⟩ := hrel
      have hi0 : (0 : Int) ≤ (i : Int) := by omega
      by_cases hlt : i < N
      · have hltI : (i : Int) < (N : Int) := by omega
        have hi32 : (i : Int) ≤ 32 := by omega
        have eti : (i : Int).toNat = i := by omega
        have NX := next82 w wr hJ.out.oi.tm.kp b _ _ L HT.out.2.1 HA.out.2.1 hJ.out.oi.tm.box st s i hJ.out.oi.lt.1 hJ.out.oi.lt.2 (by rw [HA.out.2.2.2.1]; exact hlt) HA.out.2.2.1
        go_wp2_with fail
        refine NX.mono ?_; rintro e wn ⟨⟨ok, m, rfl, hmN, hyes, hno⟩, hkn⟩
        cases ok with
        | false =>
          have HJ2 := hide (hJ.out.skip hkn (hno rfl))
          clear NX hmN hyes hno hkn
          go_wp2
          exact ⟨⟨i + 1, di, rfl, rfl, rfl, by go_num, by omega, HJ2⟩, by simp [intOf]; omega⟩
        | true =>
          obtain ⟨hmay, hTm⟩ := hyes rfl
          have hst6 : st < 65536 := Nat.lt_of_lt_of_le hJ.out.oi.lt.1 (two16 HA.out.2.2.1)
          have hgt := put_gt hmay.2.1
          have hlt2 := put_lt hJ.out.oi.lt.1 hmay.1
          have hor := or_add hmay.2.1 hst6 (by omega)
          obtain ⟨G, eG⟩ : ∃ G, 2 ^ i = G := ⟨_, rfl⟩
          obtain ⟨st2, eT⟩ : ∃ st2, st ||| 2 ^ i = st2 := ⟨_, rfl⟩
          have hst2 : st2 < 65536 := by rw [← eT]; exact Nat.lt_of_lt_of_le hlt2 (two16 HA.out.2.2.1)
          have eGI : (2 : Int) ^ i = (G : Int) := by rw [← eG]; simp
          have eTI : (st : Int) + (G : Int) = (st2 : Int) := by rw [← eT, ← hor, eG]; simp
          have hG6 : G < 65536 := by rw [← eG]; exact Nat.lt_of_lt_of_le (Nat.pow_lt_pow_right (by decide) hmay.1) (two16 HA.out.2.2.1)
          obtain ⟨hG0, hG1⟩ := g1114 hG6
          obtain ⟨hT0, hT1⟩ := g1114 hst2
          clear hG6
          obtain ⟨v1, v2⟩ := w64 hG0 hG1
          obtain ⟨v3, v4⟩ := w64 hT0 hT1
          have IH := HT.out.2.2 st2 (by rw [← eT]; exact hlt2) wn m di hmN (hJ.out.oi.tm.nu hkn) (fun a c h1 h2 h3 => hJ.out.oi.snd a c (Nat.zero_le _) h2 h3)
          have HM : Hid (K - (st2 : Int).toNat < K - (st : Int).toNat) := hide (meas (by rw [← HA.out.2.2.2.2.2]; exact hJ.out.oi.lt.1) (by rw [← eT]; exact hgt))
          have HX := hide (And.intro hmay (And.intro hTm (And.intro hgt (And.intro hkn (And.intro eT hmN)))))
          clear NX hmN hyes hno hkn hmay hTm hgt hlt2 hor eG eT hst2 hst6
          go_wp2_with fail
          refine IH.mono ?_; rintro e wf ⟨r, dj, rfl, hTj, hkj, hSj, hlowj, hr⟩
          rw [← HX.out.2.2.2.2.1] at hSj hlowj hr
          cases r with
          | false =>
            have HJ2 := hide (hJ.out.tried HX.out.2.2.2.1 hTj hkj hSj hlowj (fun hc => by have := hr.2 hc; cases this) HX.out.2.1)
            clear IH hTj hkj hSj hlowj hr
            go_wp2
            exact ⟨⟨i + 1, dj, rfl, rfl, rfl, by go_num, by omega, HJ2⟩, by simp [intOf]; omega⟩
          | true =>
            have hO := hJ.out.oi.find HX.out.2.2.2.1 hTj hkj hSj hlowj
            have hln := hO.way.len
            have hls := hO.lt.1
            have hls2 := two16 HA.out.2.2.1
            have hnn := hI.out.2
            have hcan := hr.1 rfl
            have hsz := hO.tm.kp.size
            have HO := hide (And.intro hO (And.intro hcan (And.intro hsz (small hnn hln hls hls2))))
            clear IH hTj hkj hSj hlowj hr hO hln hls hls2 hnn hcan hsz
            go_wp2_with (at_builtin; refine unhid ?_)
            refine wpList_append_lies _ rfl _ _ 39 rfl w.heap.size 3 y0 _ 1 8 Try.underlying39 hyi hy0 hy1 hy2 rfl (by decide) (.slice oa n oc) n (ints o) rfl (by have q := HO.out.1.row; rw [hI.out.2] at q; exact q.alloc _) ⟨wf.heap.size, 0, none⟩ 1 1 [.int .i64 (i : Int)] rfl rfl (World.news_of_block (heap_new wf _)) (by simp [Value.oneCell']) (by decide) (ml HO.out.2.2.2).1 (ml HO.out.2.2.2).2 (by rw [World.size_alloc]; exact Nat.le_trans HO.out.2.2.1 (Nat.le_succ _)) _ rfl ?_
            intro g3 cap3 w3 hown3 hgrow3 hat3 hlt3
            have HF : Hid (OI w w3 b w.heap.size (.slice ua N uc) L dj (o ++ [i]) (some ⟨g3, 0, none⟩) cap3 st2 m ∧ (o ++ [i]).length = n + 1) := hide (by
              have q := HO.out.1.put (g3 := g3) (cap3 := cap3) (w3 := w3) HX.out.2.2.2.2.2 HN.out HX.out.1 HX.out.2.1 hJ.out.no HO.out.2.1 (by rw [hI.out.2]; exact hown3) (by rw [hI.out.2]; exact hgrow3)
              rw [HX.out.2.2.2.2.1] at q
              exact ⟨q, by rw [List.length_append, hI.out.2]; rfl⟩)
            clear hown3 hgrow3 hat3 hlt3
            go_wp2
            exact ⟨⟨o ++ [i], some ⟨g3, 0, none⟩, cap3, st2, m, n + 1, dj, rfl, rfl, rfl, HF⟩, by simpa [intOf] using HM.out⟩
      · exact absurd (by have q := hJ.out; have e : i = L.length := by rw [HA.out.2.2.2.1]; omega
                         rw [e] at q; exact q.end_ HN.out) (fun h => h)
end Go.Proofs.Ytcbonbeogdgogaa.Li
