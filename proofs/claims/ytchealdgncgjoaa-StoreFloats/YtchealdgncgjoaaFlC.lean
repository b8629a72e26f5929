import Derived.Test.YtchealdgncgjoaaNdEF
import Derived.Test.YtchealdgncgjoaaNdMF
import Derived.Laws.EntriesVeiled
import Derived.Test.YtchealdgncgjoaaKpA
import Derived.Test.YtchealdgncgjoaaFlB
namespace Go.Proofs.Ytchealdgncgjoaa.StF
open Go.RowKit Go.Proofs.Ytchealdgncgjoaa.St
set_option linter.unusedVariables false

/-- the root's own block -/
abbrev mcells (a : Option Addr) : Obj := .cells #[.func (.func 103) #[] #[], .pointer a] 158 (0, 0)
/-- a map in memory -/
structure Mp (w : World) (mb : Nat) (t : T (FK × Int)) : Prop where
  ex : ∃ a, w.heap[mb]? = some (.cells #[.func (.func 103) #[] #[], .pointer a] 158 (0, 0)) ∧ Tr w t a
  bal : t.bal
  srt : Srt cmpF t.xs
theorem Mp.nu {w w' : World} {mb : Nat} {t : T (FK × Int)} (h : Mp w mb t) (k : Kp Nu w w') : Mp w' mb t := by
  obtain ⟨a, h1, h2⟩ := h.ex
  exact ⟨⟨a, (k.block _ (blk_lt h1) (fun h => h)).trans h1, h2.nu k⟩, h.bal, h.srt⟩
theorem Mp.lt {w : World} {mb : Nat} {t : T (FK × Int)} (h : Mp w mb t) : mb < w.heap.size := by
  obtain ⟨a, h1, h2⟩ := h.ex
  exact blk_lt h1

/-- is the key there; what does it have -/
def hasT (k : FK) (t : T (FK × Int)) : Bool := (T.fd (sd k) t).2
def getT (k : FK) (t : T (FK × Int)) : Option (FK × Int) := if (T.fd (sd k) t).2 then t.xs[(T.fd (sd k) t).1]? else none
def putT (k : FK) (v : Int) (t : T (FK × Int)) : T (FK × Int) := if (T.fd (sd k) t).2 then t.rep (T.fd (sd k) t).1 (fun p => (p.1, v)) else t.ins (T.fd (sd k) t).1 (k, v)
def delT (k : FK) (t : T (FK × Int)) : T (FK × Int) := if (T.fd (sd k) t).2 then t.rem (T.fd (sd k) t).1 else t
/-- how an old value is told -/
def ov (o : Option (FK × Int)) : Value := match o with
  | none => .int .i64 0
  | some p => .int .i64 (p.2)
def ok (o : Option (FK × Int)) : Value := match o with
  | none => .float .f64 0
  | some p => .float .f64 (p.1).bits
theorem getT_some {k : FK} {t : T (FK × Int)} (h : (T.fd (sd k) t).2 = true) : ∃ p, t.xs[(T.fd (sd k) t).1]? = some p ∧ getT k t = some p := by
  have := (T.fd_le (sd k) t).2 h
  rw [← T.xs_length] at this
  exact ⟨_, List.getElem?_eq_getElem this, by unfold getT; rw [if_pos h]; exact List.getElem?_eq_getElem this⟩
theorem put_bal {k : FK} {v : Int} {t : T (FK × Int)} (h : t.bal) : (putT k v t).bal := by
  unfold putT
  split
  · exact (T.rep_ht _ _ _).2.2 h
  · exact (T.ins_bal _ _ _ h).1
theorem put_xs {k : FK} {v : Int} {t : T (FK × Int)} : (putT k v t).xs = if (T.fd (sd k) t).2 then t.xs.modify (T.fd (sd k) t).1 (fun p => (p.1, v)) else t.xs.take (T.fd (sd k) t).1 ++ (k, v) :: t.xs.drop (T.fd (sd k) t).1 := by
  unfold putT
  split
  · exact T.rep_xs _ _ _
  · exact T.ins_xs _ _ _ (T.fd_le (sd k) t).1
theorem put_srt {k : FK} {v : Int} {t : T (FK × Int)} (h : Srt cmpF t.xs) : Srt cmpF (putT k v t).xs := by
  have hf := T.fd_eq (sd k) t (h.c cmpF_ord k)
  rw [put_xs]
  split
  · exact h.rep _ _
  · rename_i hn
    have h1 : (T.fd (sd k) t).1 = t.xs.countP (fun a => decide (0 < sd k a)) := by rw [hf]
    have h2 : t.xs.any (fun a => decide (sd k a = 0)) = false := by
      have : (T.fd (sd k) t).2 = t.xs.any (fun a => decide (sd k a = 0)) := by rw [hf]
      rw [← this]; simpa using hn
    exact h.ins cmpF_ord k v _ h1 h2
theorem put_sz {k : FK} {v : Int} {t : T (FK × Int)} : (putT k v t).sz = if (T.fd (sd k) t).2 then t.sz else t.sz + 1 := by
  unfold putT
  split
  · exact (T.rep_ht _ _ _).2.1
  · exact ins_sz _ _ _ (T.fd_le (sd k) t).1
theorem del_bal {k : FK} {t : T (FK × Int)} (h : t.bal) : (delT k t).bal := by
  unfold delT
  split
  · exact (T.rem_bal _ _ h).1
  · exact h
theorem del_xs {k : FK} {t : T (FK × Int)} : (delT k t).xs = if (T.fd (sd k) t).2 then t.xs.eraseIdx (T.fd (sd k) t).1 else t.xs := by
  unfold delT
  split
  · exact T.rem_xs _ _
  · rfl
theorem del_srt {k : FK} {t : T (FK × Int)} (h : Srt cmpF t.xs) : Srt cmpF (delT k t).xs := by
  rw [del_xs]
  split
  · exact h.erase _
  · exact h
theorem del_sz {k : FK} {t : T (FK × Int)} : (delT k t).sz = if (T.fd (sd k) t).2 then t.sz - 1 else t.sz := by
  rw [← T.xs_length, del_xs]
  have := (T.fd_le (sd k) t).2
  have e := T.xs_length t
  split
  · rename_i h
    rw [List.length_eraseIdx, if_pos (by have := this h; omega)]; omega
  · exact e

section
variable {w : World} {mb : Nat} {t : T (FK × Int)}
set_option maxHeartbeats 400000 in
theorem new_any (w : World) : Calls Try.prog 38 #[] w fun e w' => e = .returned (.pointer (some ⟨w.heap.size, 0, none⟩)) ∧ Mp w' w.heap.size .nil ∧ Kp Nu w w' := by
  have HF : Hid (Mp (w.alloc (.cells #[.func (.func 103) #[] #[], .pointer none] 158)) w.heap.size .nil) := ⟨⟨none, heap_alloc_new w _, rfl⟩, trivial, List.Pairwise.nil⟩
  go_enter Try.func38, Try.ntmps38
  go_wp2
  go_ret
  exact ⟨rfl, HF.out, Kp.alloc _ _ _⟩
set_option maxHeartbeats 400000 in
theorem tree_any {a : Option Addr} (h1 : w.heap[mb]? = some (.cells #[.func (.func 103) #[] #[], .pointer a] 158 (0, 0))) : Calls Try.prog 109 #[.pointer (some ⟨mb, 0, none⟩)] w fun e w' => e = .returned (.pointer a) ∧ w' = w := by
  have c1 : w.cell? ⟨mb, 1, none⟩ = some (.pointer a) := by simp [World.cell?, h1]
  clear h1
  go_enter Try.func109, Try.ntmps109
  go_wp2
  go_ret
  exact ⟨rfl, rfl⟩
set_option maxHeartbeats 400000 in
theorem tree_nil (w : World) : Calls Try.prog 109 #[.pointer none] w fun e w' => e = .returned (.pointer none) ∧ w' = w := by
  go_enter Try.func109, Try.ntmps109
  go_wp2
  go_ret
  exact ⟨rfl, rfl⟩
set_option maxRecDepth 100000 in
set_option maxHeartbeats 400000 in
theorem made_any {a : Option Addr} (h1 : w.heap[mb]? = some (.cells #[.func (.func 103) #[] #[], .pointer a] 158 (0, 0))) : Calls Try.prog 104 #[.pointer (some ⟨mb, 0, none⟩)] w fun e w' => e = .returned (.bool true) ∧ w' = w := by
  have c0 : w.cell? ⟨mb, 0, none⟩ = some (.func (.func 103) #[] #[]) := by simp [World.cell?, h1]
  have nf : (binOp .neq 155 (.func (.func 103) #[] #[]) .nilFunc).run Try.prog w = .ok (.bool true) w := by rfl
  clear h1
  go_enter Try.func104, Try.ntmps104
  go_wp2
  go_ret
  exact ⟨rfl, rfl⟩
set_option maxHeartbeats 400000 in
theorem made_nil (w : World) : Calls Try.prog 104 #[.pointer none] w fun e w' => e = .returned (.bool false) ∧ w' = w := by
  go_enter Try.func104, Try.ntmps104
  go_wp2
  go_ret
  exact ⟨rfl, rfl⟩
set_option maxHeartbeats 400000 in
theorem len_any (h : Mp w mb t) : Calls Try.prog 111 #[.pointer (some ⟨mb, 0, none⟩)] w fun e w' => e = .returned (.int .i64 (t.sz : Int)) ∧ w' = w := by
  obtain ⟨a, h1, h2⟩ := h.ex
  have TA := tree_any h1
  have CO := count_any h2
  clear h h1 h2
  go_enter Try.func111, Try.ntmps111
  go_wp2_with (first
    | (go_at_call 109; refine TA.mono ?_; rintro e w' ⟨rfl, hw⟩; obtain rfl := hw.symm)
    | (go_at_call 159; refine CO.mono ?_; rintro e w' ⟨rfl, hw⟩; obtain rfl := hw.symm))
  go_ret
  exact ⟨rfl, rfl⟩
end
end Go.Proofs.Ytchealdgncgjoaa.StF
namespace Go.Proofs.Ytchealdgncgjoaa.StF
open Go.RowKit Go.Proofs.Ytchealdgncgjoaa.St
set_option linter.unusedVariables false
section
variable {w : World} {mb : Nat} {t : T (FK × Int)}
set_option maxRecDepth 100000 in
set_option maxHeartbeats 1000000 in
theorem get_any (h : Mp w mb t) (k : FK) (hs : t.sz + 1 < 2 ^ 62) :
    Calls Try.prog 194 #[.pointer (some ⟨mb, 0, none⟩), .float .f64 (k).bits] w fun e w' => e = .returned (.tuple #[ov (getT k t), .bool (T.fd (sd k) t).2]) ∧ Kp Nu w w' := by
  obtain ⟨a, h1, h2⟩ := h.ex
  have TA := tree_any h1
  have FA := find_any h1 h2 k (by omega)
  cases hb : (T.fd (sd k) t).2 with
  | false =>
    have eg : getT k t = none := by unfold getT; rw [hb]; rfl
    rw [eg]
    rw [hb] at FA
    generalize (T.fd (sd k) t).1 = i at *
    clear h h1 h2 eg hb hs
    go_enter Try.func194, Try.ntmps194
    go_wp2_with (first
      | (go_at_call 109; refine TA.mono ?_; rintro e w' ⟨rfl, hw⟩; obtain rfl := hw.symm)
      | (go_at_call 105; refine FA.mono ?_; rintro e w1 ⟨rfl, k1⟩))
    go_ret2
    exact ⟨rfl, k1⟩
  | true =>
    obtain ⟨p, hp, eg⟩ := getT_some hb
    rw [eg]
    rw [hb] at FA
    have hat := atT_xs t (T.fd (sd k) t).1
    rw [hp] at hat
    have hlt := (T.fd_le (sd k) t).2 hb
    generalize (T.fd (sd k) t).1 = i at *
    have AT : ∀ W, Kp Nu w W → Calls Try.prog 108 #[.pointer a, .int .i64 (i : Int)] W fun e w' => ∃ b, e = .returned (.pointer (some ⟨b, 0, none⟩)) ∧ w'.cell? ⟨b, 1, none⟩ = some (.int .i64 (p.2)) ∧ w' = W := fun W q => by
      refine (at_any (h2.nu q) (i : Int) (by omega) (by omega)).mono ?_
      rintro e w' ⟨a', rfl, hn, rfl⟩
      rw [hat] at hn
      obtain ⟨b, x2, x3, x4, x5, rfl, hb⟩ := hn
      exact ⟨b, rfl, (cell6 hb).2.1, rfl⟩
    clear h h1 h2 eg hb hs hp hat hlt
    go_enter Try.func194, Try.ntmps194
    go_wp2_with (first
      | (go_at_call 109; refine TA.mono ?_; rintro e w' ⟨rfl, hw⟩; obtain rfl := hw.symm)
      | (go_at_call 105; refine FA.mono ?_; rintro e w1 ⟨rfl, k1⟩)
      | (go_at_call 108; refine (AT _ k1).mono ?_; rintro e w3 ⟨b3, rfl, c3, hw3⟩; obtain rfl := hw3.symm))
    go_ret2
    exact ⟨rfl, k1⟩
end
end Go.Proofs.Ytchealdgncgjoaa.StF
namespace Go.Proofs.Ytchealdgncgjoaa.StF
open Go.RowKit Go.Proofs.Ytchealdgncgjoaa.St Go.Shelf Go.Proofs.Ytchealdgncgjoaa.Fl
set_option linter.unusedVariables false
set_option linter.unusedSimpArgs false
/-- a pair as the document has it: the key's place -/
def pj (p : FK × Int) : Int × Int := (p.1.pl, p.2)
theorem fd_pj (k : FK) (t : T (FK × Int)) : T.fd (StI.sd k.pl) (t.map pj) = T.fd (sd k) t := T.map_fd pj (sd k) (StI.sd k.pl) (fun p => rfl) t
theorem put_pj (k : FK) (v : Int) (t : T (FK × Int)) : (putT k v t).map pj = StI.putT k.pl v (t.map pj) := by
  unfold putT StI.putT
  rw [fd_pj]
  split
  · exact T.map_rep pj _ _ (fun p => rfl) t _
  · exact T.map_ins pj t _ _
theorem del_pj (k : FK) (t : T (FK × Int)) : (delT k t).map pj = StI.delT k.pl (t.map pj) := by
  unfold delT StI.delT
  rw [fd_pj]
  split
  · exact T.map_rem pj t _
  · rfl
theorem ov_pj (k : FK) (t : T (FK × Int)) : StI.ov (StI.getT k.pl (t.map pj)) = ov (getT k t) := by
  unfold StI.getT getT
  rw [fd_pj]
  split
  · rw [T.map_xs, List.getElem?_map]
    cases t.xs[(T.fd (sd k) t).1]? <;> rfl
  · rfl
theorem srt_pj {t : T (FK × Int)} (h : Srt cmpF t.xs) : Srt cmpI (t.map pj).xs := by
  rw [T.map_xs]
  exact List.Pairwise.map pj (fun a b h => h) h
theorem xs_pj (t : T (FK × Int)) : (t.map pj).xs.length = t.sz := by rw [T.xs_length, T.map_sz]
section
variable {B : Nat} {w w' : World} {rb mb : Nat} {wh : Int} {vk vv : Value} {xs : List (Int × Int)} {t : T (FK × Int)}
theorem keepM (h : StI.Rm B w rb wh vk vv xs) (hm : Mp w mb t) (k : Kp (fun i => i = mb) w w') : StI.Rm B w' rb wh vk vv xs := by
  obtain ⟨a, h1, _⟩ := hm.ex
  have hn : ∀ g c ty p, w.heap[g]? = some (.cells c ty p) → ty ≠ 158 → g ≠ mb := fun g c ty p hg hty e => by
    rw [e, h1] at hg; cases hg; exact hty rfl
  refine ⟨(k.block _ (blk_lt h.blk) (hn _ _ _ _ h.blk (by decide))).trans h.blk, own_keep h.ok (fun g hg => ?_), own_keep h.ov (fun g hg => ?_), h.apart⟩
  · obtain ⟨cur, hc⟩ := own_obj h.ok hg
    exact k.block g (blk_lt hc) (hn _ _ _ _ hc (by decide))
  · obtain ⟨cur, hc⟩ := own_obj h.ov hg
    exact k.block g (blk_lt hc) (hn _ _ _ _ hc (by decide))
theorem keepR (hm : Mp w mb t) (h : StI.Rm B w rb wh vk vv xs) (k : Kp (fun i => i = rb ∨ vv.ownBlock = some i) w w') : Mp w' mb t := by
  obtain ⟨a, h1, h2⟩ := hm.ex
  have hn : ∀ g c ty p, w.heap[g]? = some (.cells c ty p) → ty ≠ 52 → ty ≠ 3 → ¬ (g = rb ∨ vv.ownBlock = some g) := fun g c ty p hg t1 t2 e => by
    rcases e with e | e
    · rw [e, h.blk] at hg; cases hg; exact t1 rfl
    · obtain ⟨cur, hc⟩ := own_obj h.ov e
      rw [hc] at hg; cases hg; exact t2 rfl
  exact ⟨⟨a, (k.block _ (blk_lt h1) (hn _ _ _ _ h1 (by decide) (by decide))).trans h1, h2.keep (Kn.of k (fun b c hb => hn _ _ _ _ hb (by decide) (by decide)))⟩, hm.bal, hm.srt⟩
end
/-- is the word that of the zero below -/
def sgn (b : Nat) : Int := if b = 0x8000000000000000 then -1 else 1
/-- the key that is a zero is the one that was put first -/
def Zk (z : Int) (xs : List (FK × Int)) : Prop := ∀ p ∈ xs, p.1.pl = 0 → z = sgn p.1.bits
/-- both maps, and what has been kept -/
def Both (w : World) (mb rb : Nat) (n : Nat) (wr : World) (t : T (FK × Int)) : Prop := Mp wr mb t ∧ (∃ vk vv, StI.Rm w.heap.size wr rb 0 vk vv (t.map pj).xs) ∧ t.sz ≤ n ∧ Kp Nu w wr
/-- Put into both maps -/
theorem both_put {w wl w2 : World} {mb rb n : Nat} {t : T (FK × Int)} (h1 : w.heap.size ≤ mb) (h2 : w.heap.size ≤ rb) (h : Both w mb rb n wl t) (hn : n ≤ 17592186043904) (k : FK) (v : Int)
    (hm2 : Mp w2 mb (putT k v t)) (k2 : Kp (fun i => i = mb) wl w2) :
    Calls Try.prog 36 #[.pointer (some ⟨rb, 0, none⟩), .int .i64 k.pl, .int .i64 v] w2 fun e w' => e = .returned (.tuple #[ov (getT k t), .bool (T.fd (sd k) t).2]) ∧ Both w mb rb (n + 1) w' (putT k v t) := by
  obtain ⟨hm, ⟨vk, vv, hr⟩, hsz, kw⟩ := h
  have r2 := keepM hr hm k2
  have := StI.rput_T r2 (srt_pj hm.srt) (Nat.le_trans kw.size k2.size) k.pl v (by rw [xs_pj]; omega)
  refine this.mono ?_
  rintro e w' ⟨rfl, ⟨vk', vv', r3⟩, k3⟩
  rw [← put_pj] at r3
  refine ⟨by rw [ov_pj, fd_pj], keepR hm2 r2 k3, ⟨vk', vv', r3⟩, by rw [put_sz]; split <;> omega, (kw.trans k2 (fun i hi e => by have e : i = mb := e; omega)).trans k3 (fun i hi e => ?_)⟩
  rcases e with e | e
  · omega
  · have := StI.own_low r2.ov e; omega
theorem both_del {w wl w2 : World} {mb rb n : Nat} {t : T (FK × Int)} (h1 : w.heap.size ≤ mb) (h2 : w.heap.size ≤ rb) (h : Both w mb rb n wl t) (hn : n ≤ 17592186043904) (k : FK)
    (hm2 : Mp w2 mb (delT k t)) (k2 : Kp (fun i => i = mb) wl w2) :
    Calls Try.prog 42 #[.pointer (some ⟨rb, 0, none⟩), .int .i64 k.pl] w2 fun e w' => e = .returned (.tuple #[ov (getT k t), .bool (T.fd (sd k) t).2]) ∧ Both w mb rb n w' (delT k t) := by
  obtain ⟨hm, ⟨vk, vv, hr⟩, hsz, kw⟩ := h
  have r2 := keepM hr hm k2
  have := StI.rdel_T r2 (srt_pj hm.srt) (Nat.le_trans kw.size k2.size) k.pl (by rw [xs_pj]; omega)
  refine this.mono ?_
  rintro e w' ⟨rfl, ⟨vk', vv', r3⟩, k3⟩
  rw [← del_pj] at r3
  refine ⟨by rw [ov_pj, fd_pj], keepR hm2 r2 k3, ⟨vk', vv', r3⟩, by rw [del_sz]; split <;> omega, (kw.trans k2 (fun i hi e => by have e : i = mb := e; omega)).trans k3 (fun i hi e => ?_)⟩
  rcases e with e | e
  · omega
  · have := StI.own_low r2.ov e; omega
theorem mem_put {k : FK} {v : Int} {t : T (FK × Int)} {p : FK × Int} (h : p ∈ (putT k v t).xs) : (∃ q ∈ t.xs, q.1 = p.1) ∨ ((T.fd (sd k) t).2 = false ∧ p.1 = k) := by
  rw [put_xs] at h
  split at h
  · rw [List.mem_iff_getElem?] at h
    obtain ⟨i, hi⟩ := h
    rw [List.getElem?_modify] at hi
    cases hx : t.xs[i]? with
    | none => rw [hx] at hi; cases hi
    | some q =>
      rw [hx] at hi
      refine .inl ⟨q, List.mem_of_getElem? hx, ?_⟩
      simp at hi
      rw [← hi]
      split <;> rfl
  · rename_i hf
    rcases List.mem_append.1 h with h | h
    · exact .inl ⟨p, List.mem_of_mem_take h, rfl⟩
    · rcases List.mem_cons.1 h with h | h
      · exact .inr ⟨by simpa using hf, by rw [h]⟩
      · exact .inl ⟨p, List.mem_of_mem_drop h, rfl⟩
theorem zk_put {z : Int} {k : FK} {v : Int} {t : T (FK × Int)} (h : Zk z t.xs) (hk : k.pl = 0 → (T.fd (sd k) t).2 = true) : Zk z (putT k v t).xs := fun p hp h0 => by
  rcases mem_put hp with ⟨q, hq, e⟩ | ⟨hf, e⟩
  · rw [← e] at h0 ⊢; exact h q hq h0
  · rw [e] at h0; rw [hk h0] at hf; cases hf
/-- a key of that place that is not there -/
theorem zk_new {k : FK} {v : Int} {t : T (FK × Int)} (hs : Srt cmpF t.xs) (h0 : k.pl = 0) (hf : (T.fd (sd k) t).2 = false) : Zk (sgn k.bits) (putT k v t).xs := fun p hp hp0 => by
  rcases mem_put hp with ⟨q, hq, e⟩ | ⟨_, e⟩
  · have hfd := T.fd_eq (sd k) t (hs.c cmpF_ord k)
    have h2 : t.xs.any (fun a => decide (sd k a = 0)) = false := by rw [← hf, hfd]
    have := List.any_eq_false.1 h2 q hq
    exact absurd (show decide (sd k q = 0) = true by
      rw [← e] at hp0
      have : sd k q = cmpI k.pl q.1.pl := rfl
      rw [this, h0, hp0]; rfl) this
  · rw [e]
theorem zk_del {z : Int} {k : FK} {t : T (FK × Int)} (h : Zk z t.xs) : Zk z (delT k t).xs := fun p hp h0 => by
  refine h p ?_ h0
  rw [del_xs] at hp
  split at hp
  · exact List.mem_of_mem_eraseIdx hp
  · exact hp
end Go.Proofs.Ytchealdgncgjoaa.StF
