/- Texts in frames: frame.Put of whatever short texts; rows of slices that are written out. -/
import Derived.Test.YtgpfpmocdmeldaaGreatFrameR
namespace Go.Proofs.YtgpfpmocdmeldaaGreat
open Go.RowKit

theorem short_val (a : Option Addr) (n cap m : Nat) (J : Int) (l : List Int) (w : World) (h : Bs w a n cap l) (hm : m ≤ 100000) (hJ : J = (m : Int)) :
    Calls Tryz.prog 7 #[.slice a n cap, .int .i64 J] w fun e w' => e = .returned (.slice a (min n m) cap) ∧ w' = w := by
  refine (short_any a n cap m J l w h hm hJ).mono ?_
  rintro e w' ⟨k, L, rfl, rfl, hk1, hk2, HL, hbs⟩
  have e1 := hbs.1
  rw [HL.out, List.length_take, h.1] at e1
  obtain rfl : k = min n m := by omega
  exact ⟨rfl, rfl⟩

theorem Bs.upto {w : World} {a : Option Addr} {n cap : Nat} {l : List Int} (h : Bs w a n cap l) (m : Nat) : Bs w a (min n m) cap (l.take m) := by
  have := h.take (min n m) (by omega)
  have e : l.take (min n m) = l.take m := by
    by_cases hm : n ≤ m
    · rw [List.take_of_length_le (by rw [h.1]; omega), List.take_of_length_le (by rw [h.1]; omega)]
    · rw [show min n m = m by omega]
  rwa [e] at this

theorem run_uptoP (a : Option Addr) (n cap j : Nat) (J : Int) (eJ : J = (j : Int)) (hj : j ≤ cap) (W : World) :
    (Instr.slice 22 (.slice a n cap) none (some (.int .i64 J)) none).run Tryz.prog W = .ok (.slice a j cap) W := by
  subst eJ
  have e1 : (Instr.sliceBound (.int .i64 (j : Int)) cap .sliceAcap).run Tryz.prog W = .ok j W := by
    have := run_sliceBound (P := Tryz.prog) W .i64 (j : Int) cap .sliceAcap (by omega) (by omega)
    simpa using this
  simp [Instr.slice, Instr.sliceBounds, run_underlying Tryz.underlying22, e1]
  try (cases a <;> simp [Addr.add])

theorem Ps.take {w : World} {pa : Option Addr} {m : Nat} {ls : List (List Int)} (h : Ps w pa m ls) (j : Nat) (hj : j ≤ m) : Ps w pa j (ls.take j) := by
  refine ⟨by rw [List.length_take, h.1]; omega, fun h0 => ?_⟩
  obtain ⟨b, o, rfl, hc⟩ := h.2 (by omega)
  refine ⟨b, o, rfl, fun i hi => ?_⟩
  obtain ⟨a, n, c, h1, h2⟩ := hc i (by omega)
  refine ⟨a, n, c, h1, ?_⟩
  have e : (ls.take j).getD i [] = ls.getD i [] := by
    simp only [List.getD_eq_getElem?_getD, List.getElem?_take, if_pos hi]
  rw [e]; exact h2

set_option maxRecDepth 100000 in
theorem framePut_none (a : Option Addr) (n cap : Nat) (l : List Int) (pa : Option Addr) (mc : Nat) (w : World) (h : Bs w a n cap l) (hn : n ≤ 274877906944) :
    Calls Tryz.prog 10 #[.slice a n cap, .slice pa 0 mc] w fun e w' => ∃ v', e = .returned v' ∧ w'.ownsInts w.heap.size 5 .u8 v' l ∧ Below w.heap.size w w' := by
  have HC := hide (copyRoomF a n cap 0 l w h (by omega) (by omega))
  clear h
  go_enter Tryz.func10, Tryz.ntmps10
  go_wp2_with fail
  refine (anyTooLong_none _ _ _).mono ?_
  rintro e w1 ⟨rfl, rfl⟩
  go_wp2_with fail
  refine (roomFor_none _ _ _).mono ?_
  rintro e w1 ⟨rfl, rfl⟩
  go_wp2_with fail
  refine HC.out.mono ?_
  rintro e w2 ⟨rfl, hown2, hb2⟩
  clear HC
  go_wp2
  refine wp_loop_rounds 1 ?_
  rw [rounds_succ]
  go_wp2
  go_ret
  exact ⟨_, rfl, hown2, hb2⟩

theorem framePut_ps (a : Option Addr) (n cap : Nat) (l : List Int) (pa : Option Addr) (m mc : Nat) (ls : List (List Int)) (w : World) (h : Bs w a n cap l) (hn : n ≤ 274877906944) (hm : m ≤ 274877906944) (hr : roomL ls ≤ 274877906944) (hp : Ps w pa m ls) (hlong : tooLong ls = false) :
    Calls Tryz.prog 10 #[.slice a n cap, .slice pa m mc] w fun e w' => ∃ v', e = .returned v' ∧ w'.ownsInts w.heap.size 5 .u8 v' (l ++ framesB ls) ∧ Below w.heap.size w w' := by
  by_cases h0 : m = 0
  · subst h0
    obtain rfl : ls = [] := List.length_eq_zero_iff.1 hp.1
    have := framePut_none a n cap l pa mc w h hn
    simpa [framesB] using this
  · obtain ⟨b, o, rfl, hc⟩ := hp.2 (by omega)
    exact framePut_some a n cap l b o m mc ls w h hn hp.1 hm hr hc hlong

/-- Texts that are not too long. -/
def cut100 (ls : List (List Int)) : List (List Int) := ls.map (List.take 100)
theorem cut100_long (ls : List (List Int)) : tooLong (cut100 ls) = false := by
  unfold tooLong cut100
  rw [List.any_eq_false]
  intro t ht
  obtain ⟨u, _, rfl⟩ := List.mem_map.1 ht
  have : (u.take 100).length ≤ 100 := by rw [List.length_take]; omega
  simp only [decide_eq_true_eq]
  omega
theorem cut100_room (ls : List (List Int)) : roomL (cut100 ls) ≤ 106 * ls.length := by
  induction ls with
  | nil => simp [roomL, cut100]
  | cons t ls ih =>
    have : (t.take 100).length ≤ 100 := by rw [List.length_take]; omega
    simp only [roomL, cut100, List.map_cons, List.sum_cons, List.length_cons] at *
    omega
theorem cut100_bytes (ls : List (List Int)) : (framesB (cut100 ls)).length ≤ 114 * ls.length := by
  induction ls with
  | nil => simp [framesB, cut100]
  | cons t ls ih =>
    have h1 : (t.take 100).length ≤ 100 := by rw [List.length_take]; omega
    have h2 := frameB_len (t.take 100)
    simp only [framesB, cut100, List.map_cons, List.flatten_cons, List.length_append, List.length_cons] at *
    omega
theorem cut100_take (ls : List (List Int)) (k : Nat) (hk : k < ls.length) : framesB (cut100 (ls.take (k + 1))) = framesB (cut100 (ls.take k)) ++ frameB ((ls.getD k []).take 100) := by
  unfold framesB cut100
  rw [List.take_succ_eq_append_getElem hk, List.map_append, List.map_append, List.flatten_append]
  simp [List.getD_eq_getElem?_getD, hk]
theorem cut100_snoc (ls : List (List Int)) (k : Nat) (hk : k < ls.length) : cut100 (ls.take (k + 1)) = cut100 (ls.take k) ++ [(ls.getD k []).take 100] := by
  unfold cut100
  rw [List.take_succ_eq_append_getElem hk, List.map_append]
  simp [List.getD_eq_getElem?_getD, hk]

theorem OwnP.lit3 (w : World) (p q r : Option Addr × Nat × Nat) : OwnP (w.alloc (.cells #[sv p, sv q, sv r] 23)) w.heap.size (.slice (some ⟨w.heap.size, 0, none⟩) 3 3) [p, q, r] :=
  ⟨by simp, .inr ⟨_, _, _, rfl, Nat.le_refl _, heap_alloc_new w _, by simp, by simp [maxLen], by simp, by simp⟩⟩

/-- append(own, p, q) of a row of slices. -/
theorem wpList_appPP {w : World} {ops : Array Oper} {rest : List Oper} {o : Oper} {a : Act} {Q : Exit → Act → World → Prop} (hgd : o.guard = none) (s x : Operand)
    (ho : o.op = .call { callee := .builtin .append, args := #[s, x], argTypes := #[22, 22] })
    (B : Nat) (v : Value) (ps : List (Option Addr × Nat × Nat)) (hs : a.eval s = v) (hown : OwnP w B v ps) (q : Nat) (p p' : Option Addr × Nat × Nat) (hx : a.eval x = .slice (some ⟨q, 0, none⟩) 2 2) (hq : w.cell? ⟨q, 0, none⟩ = some (sv p)) (hq' : w.cell? ⟨q, 1, none⟩ = some (sv p')) (hsz : ps.length ≤ 1000000000000) (hB : B ≤ w.heap.size)
    (h : ∀ v' w', OwnP w' B v' (ps ++ [p, p']) → w.grownBy w' v.ownBlock → wpList Tryz.prog ops Q rest (a.put o.dst v') w') :
    wpList Tryz.prog ops Q (o :: rest) a w := by
  obtain ⟨i0, hi, hz0, hz1, hz2⟩ := info_parts infoP
  refine wpList_append_own_at w hgd s x 22 ho B 23 i0 (.slice none 0 0) 1 24 Tryz.underlying22 hi hz0 hz1 hz2 rfl (by decide) v ps.length (ps.map sv) hs hown ⟨q, 0, none⟩ 2 2 [sv p, sv p'] hx rfl ?_ (by simp [sv, Value.oneCell']) (by simp only [maxLen]; omega) (by omega) hB ?_
  · intro j u hj
    rw [Go.Proofs.YtgpfpmocdmeldaaGreat.add_none]
    match j, hj with
    | 0, hj => simp at hj; subst hj; exact hq
    | 1, hj => simp at hj; subst hj; exact hq'
    | j + 2, hj => simp at hj
  · intro v' w' h2 h3 _ _
    refine h v' w' ?_ h3
    unfold OwnP
    rw [List.length_append, List.map_append]
    exact h2
/-- A slice of slices of bytes that came in. -/
theorem ps_rows {W : World} {x : Addr} {n cap : Nat} {A : Nat → Option Addr} {L C : Nat → Nat} {Z : Nat → List Int} (hl : n ≤ cap)
    (h : ∀ r, r < cap → W.cell? (x.add r) = some (.slice (A r) (L r) (C r)) ∧ L r ≤ C r ∧ C r ≤ maxLen ∧ (Z r).length = C r ∧ (∀ n ∈ Z r, (Lit.int .u8 n).wf = true) ∧ (A r = none → C r = 0) ∧
        ∀ a', A r = some a' → 0 ≤ a'.block ∧ ∀ c, c < C r → W.cell? (a'.add c) = some (.int .u8 ((Z r).getD c 0))) :
    Ps W (some x) n ((List.range n).map fun r => (Z r).take (L r)) := by
  refine ⟨by simp, fun hn => ?_⟩
  have hc := (h 0 (by omega)).1
  obtain ⟨b, o, sp⟩ := x
  have hs : sp = none := by simpa [Addr.add] using World.cell?_spot hc
  subst hs
  refine ⟨b, o, rfl, fun i hi => ?_⟩
  obtain ⟨h1, h2, h3, h4, h5, h6, h7⟩ := h i (by omega)
  rw [Go.Proofs.YtgpfpmocdmeldaaGreat.add_none] at h1
  have e : ((List.range n).map fun r => (Z r).take (L r)).getD i [] = (Z i).take (L i) := by simp [hi]
  refine ⟨_, _, _, h1, ?_⟩
  rw [e]
  cases hA : A i with
  | none =>
    have e0 := h6 hA
    have e1 : L i = 0 := by omega
    rw [e0, e1]
    simpa using Bs.nil W
  | some a' => exact (row_some h2 h3 h4 (fun c hc => (h7 a' hA).2 c (by omega)) h5).bs
end Go.Proofs.YtgpfpmocdmeldaaGreat
