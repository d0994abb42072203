/- Cells that come in: which may be, by the program. -/
import Derived.Test.YtiofkcmdgijjoaaGreatLdO
import Derived.Deep.LoopGhost
import Derived.Deep.QuietTactic
import Derived.BigQuiet
import Derived.Lib.QuietBelow
namespace Go.Proofs.YtiofkcmdgijjoaaGreat
open Go.RowKit Go.MapKept Go.ChangeMaps Go.Lib Go.Sort

/-- The first t fields may be. -/
def FldT (d : List (Int × Int)) (t : Nat) : Prop := ∀ i p, i < t → d[i]? = some p → (0 ≤ p.1 ∧ p.1 < 8) ∧ ∀ j q, i = j + 1 → d[j]? = some q → q.1 < p.1
theorem fldT_0 (d : List (Int × Int)) : FldT d 0 := fun i _ h => absurd h (Nat.not_lt_zero i)
theorem fldT_ge {d : List (Int × Int)} {t : Nat} (h : FldT d t) : ∀ i p, i < t → d[i]? = some p → (i : Int) ≤ p.1 := by
  intro i
  induction i with
  | zero => intro p hi hp; have := (h 0 p hi hp).1.1; simpa using this
  | succ i ih =>
    intro p hi hp
    have hlt := (List.getElem?_eq_some_iff.1 hp).1
    obtain ⟨q, hq⟩ : ∃ q, d[i]? = some q := ⟨_, List.getElem?_eq_getElem (by omega)⟩
    have h1 := ih q (by omega) hq
    have h2 := (h (i + 1) p hi hp).2 i q rfl hq
    omega
theorem fldT_next {d : List (Int × Int)} {t : Nat} {p : Int × Int} (h : FldT d t) (hp : d[t]? = some p) (h1 : 0 ≤ p.1 ∧ p.1 < 8) (h2 : ∀ j q, t = j + 1 → d[j]? = some q → q.1 < p.1) : FldT d (t + 1) ∧ t < 8 := by
  have key : FldT d (t + 1) := fun i q hi hq => by
    by_cases e : i = t
    · subst e
      rw [hp] at hq
      cases hq
      exact ⟨h1, h2⟩
    · exact h i q (by omega) hq
  have := fldT_ge key t p (by omega) hp
  exact ⟨key, by omega⟩
theorem fldT_bad {d : List (Int × Int)} {t : Nat} {p : Int × Int} (hp : d[t]? = some p) (h : ¬ (0 ≤ p.1 ∧ p.1 < 8)) : ¬ FldT d d.length := fun e => h (e t p (List.getElem?_eq_some_iff.1 hp).1 hp).1
theorem fldT_bad2 {d : List (Int × Int)} {t : Nat} {p q : Int × Int} (hp : d[t + 1]? = some p) (hq : d[t]? = some q) (h : ¬ q.1 < p.1) : ¬ FldT d d.length := fun e => h ((e (t + 1) p (List.getElem?_eq_some_iff.1 hp).1 hp).2 t q rfl hq)

set_option maxRecDepth 100000 in
set_option maxHeartbeats 2000000 in
theorem fieldsMay_any (ao : Option Addr) (n cp : Nat) (z : List (Int × Int)) (w : World) (h : RdF w ao n cp z) (R : Bool) (hR : Hid (R = true ↔ FldT z z.length)) :
    Calls Tryz.prog 107 #[.slice ao n cp] w fun e w' => e = .returned (.bool R) ∧ Below w.heap.size w w' := by
  have hz := h.len
  have HZ := hide h
  clear h
  go_enter Tryz.func107, Tryz.ntmps107
  go_wp2
  go_loopg [7] 9 (fun gm ix wr => ∃ t : Nat, gm = 9 - t ∧ t ≤ n ∧ t ≤ 8 ∧ ix = .int .i64 t ∧ Hid (FldT z t) ∧ Hid (Below w.heap.size w wr))
  case atStart => exact ⟨0, rfl, by omega, by omega, rfl, fldT_0 z, Below.refl _ _⟩
  case round =>
    obtain ⟨t, rfl, ht, ht8, rfl, HT, HB⟩ := hrel
    by_cases htn : t < n
    · obtain ⟨bd, od, rfl, hc⟩ := HZ.out.addr (by omega)
      have hcp := HZ.out.le
      obtain ⟨⟨pf, pv⟩, hp⟩ : ∃ p, z[t]? = some p := ⟨_, List.getElem?_eq_getElem (by omega)⟩
      have z0 := same_cell HB.out (hc t _ hp).1
      have z1 := same_cell HB.out (hc t _ hp).2
      simp only at z0 z1
      have htz : (t : Int) < (n : Int) := by omega
      have htn0 : (0 : Int) ≤ (t : Int) := by omega
      have hbb := below_alloc wr (fdO (pf, pv)) wr.heap.size (Nat.le_refl _)
      have HB2 := hide (HB.out.trans (hbb.mono HB.out.size))
      have HBX := hide (heap_alloc_new wr (fdO (pf, pv)))
      have HPQ : Hid (∀ j, t = j + 1 → ∃ q, z[j]? = some q ∧ (wr.alloc (fdO (pf, pv))).cell? ⟨bd, od + j * 2, none⟩ = some (.int .i64 q.1)) := fun j e => by
        obtain ⟨q, hq⟩ : ∃ q, z[j]? = some q := ⟨_, List.getElem?_eq_getElem (by omega)⟩
        exact ⟨q, hq, same_cell HB2.out (hc j _ hq).1⟩
      have HP := hide hp
      have hfo : fdO (pf, pv) = .cells #[.int .i64 pf, .int .i64 pv] 43 := rfl
      rw [hfo] at HB2 HBX HPQ
      clear hc hp hbb hfo
      by_cases hlo : pf < 0
      · have e : R = false := by
          cases R with
          | false => rfl
          | true => exact absurd (hR.out.1 rfl) (fldT_bad HP.out (fun e => by have := e.1; simp only at this; omega))
        subst e
        clear HP HT HPQ
        go_wp2
        go_ret
        exact ⟨rfl, HB2.out⟩
      · by_cases hhi : 8 ≤ pf
        · have e : R = false := by
            cases R with
            | false => rfl
            | true => exact absurd (hR.out.1 rfl) (fldT_bad HP.out (fun e => by have := e.2; simp only at this; omega))
          subst e
          clear HP HT HPQ
          go_wp2
          go_ret
          exact ⟨rfl, HB2.out⟩
        · have hhi2 : ¬ pf ≥ 8 := hhi
          rcases Nat.eq_zero_or_pos t with h0 | hpos
          · obtain ⟨h1, h2⟩ := fldT_next HT.out HP.out ⟨by simp only; omega, by simp only; omega⟩ (fun j q e _ => by omega)
            have HT2 := hide h1
            have hgt : decide ((t : Int) > 0) = false := decide_eq_false (by omega)
            have hgt2 : ¬ (0 : Int) < (t : Int) := by omega
            have hgt3 : decide ((0 : Int) < (t : Int)) = false := decide_eq_false hgt2
            have hgt4 : ¬ 0 < t := by omega
            have hgt5 : decide (0 < t) = false := decide_eq_false hgt4
            clear HP HT HPQ h1 h0
            go_wp2_with fail
            go_quiet (fail)
            have HB3 := hide (below_drewN HB2.out nq)
            clear z0 z1 HB2 HBX
            go_wp2
            go_roundg (9 - (t + 1))
            case measure => omega
            case rel => exact ⟨t + 1, rfl, by omega, by omega, by simp, HT2, HB3⟩
          · obtain ⟨j, rfl⟩ : ∃ j, t = j + 1 := ⟨t - 1, by omega⟩
            obtain ⟨⟨qf, qv⟩, hq, cq⟩ := HPQ.out j rfl
            simp only at cq
            have hjz : (j : Int) < (n : Int) := by omega
            have hj0 : (0 : Int) ≤ (j : Int) := by omega
            have hsub : ((j + 1 : Nat) : Int) - 1 = (j : Int) := by omega
            have hgt : decide (((j + 1 : Nat) : Int) > 0) = true := decide_eq_true (by omega)
            by_cases hqp : qf < pf
            · obtain ⟨h1, h2⟩ := fldT_next HT.out HP.out ⟨by simp only; omega, by simp only; omega⟩ (fun j' q' e e' => by
                have : j' = j := by omega
                subst this
                rw [hq] at e'; cases e'; exact hqp)
              have HT2 := hide h1
              have hn1 : ¬ pf ≤ qf := by omega
              have hn2 : decide (pf ≤ qf) = false := decide_eq_false hn1
              clear HP HT HPQ h1 hq
              go_wp2_with fail
              go_quiet (fail)
              have HB3 := hide (below_drewN HB2.out nq)
              clear z0 z1 HB2 HBX cq
              go_wp2
              go_roundg (9 - (j + 1 + 1))
              case measure => omega
              case rel => exact ⟨j + 1 + 1, rfl, by omega, by omega, by simp, HT2, HB3⟩
            · have e : R = false := by
                cases R with
                | false => rfl
                | true => exact absurd (hR.out.1 rfl) (fldT_bad2 HP.out hq hqp)
              subst e
              have hn1 : pf ≤ qf := by omega
              have hn2 : decide (pf ≤ qf) = true := decide_eq_true hn1
              clear HP HT HPQ hq
              go_wp2_with fail
              go_quiet (fail)
              have HB3 := hide (below_drewN HB2.out nq)
              clear z0 z1 HB2 HBX cq
              go_wp2
              go_ret
              exact ⟨rfl, HB3.out⟩
    · have e : R = true := hR.out.2 (fun i p hi hp => HT.out i p (by omega) hp)
      subst e
      have htz : ¬ (t : Int) < (n : Int) := by omega
      clear HT
      go_wp2
      go_ret
      exact ⟨rfl, HB.out⟩

/-- May a cell be? -/
def CelOK (c : Cw) : Prop := keyB c.k.g c.k.n c.k.i = true ∧ (c.h = true ∨ 0 < c.l.length ∨ 0 < c.d.length) ∧ (c.h = true ∨ c.v = 0) ∧ c.l.length ≤ 100 ∧ FldT c.d c.d.length
theorem mayF {R : Bool} {p : Prop} (h : R = true ↔ p) (hn : ¬ p) : R = false := by cases R with | false => rfl | true => exact absurd (h.1 rfl) hn
theorem mayT {R : Bool} {p : Prop} (h : R = true ↔ p) (hn : p) : R = true := h.2 hn

set_option maxRecDepth 100000 in
theorem stKeyMay (k : K3) (w : World) : Calls Tryz.prog 105 #[.agg #[.int .i64 k.g, .int .i64 k.n, .int .i64 k.i]] w fun e w' => e = .returned (.bool (keyB k.g k.n k.i)) ∧ Below w.heap.size w w' := by
  have hbb := hide (below_alloc w (k3O k) w.heap.size (Nat.le_refl _))
  have hmb : mayB ⟨2, k.g, k.n, k.i, 0, 0⟩ = keyB k.g k.n k.i := by simp [mayB, kindB, fieldB, hasF, valueB, hasV]
  have HM : Hid (Calls Tryz.prog 69 #[.agg #[.int .i64 2, .int .i64 k.g, .int .i64 k.n, .int .i64 k.i, .int .i64 0, .int .i64 0]] (w.alloc (k3O k)) fun e w' => e = .returned (.bool (keyB k.g k.n k.i)) ∧ Hid (Below w.heap.size w w')) := by
    refine Calls.mono (show Calls Tryz.prog 69 #[mV ⟨2, k.g, k.n, k.i, 0, 0⟩] (w.alloc (k3O k)) _ from may_any _ _) ?_
    rintro e w' ⟨r1, r2⟩
    rw [hmb] at r1
    exact ⟨r1, hbb.out.trans (r2.mono hbb.out.size)⟩
  unfold k3O at HM
  clear hmb hbb
  go_enter Tryz.func105, Tryz.ntmps105
  go_wp2_with fail
  refine HM.out.mono ?_
  rintro e w2 ⟨rfl, HB⟩
  go_wp2
  go_ret
  exact ⟨rfl, HB.out⟩

set_option maxRecDepth 100000 in
theorem hasSome_any (g n i v : Int) (hb : Bool) (lp dp : Option Addr) (ln lc dn dc : Nat) (w : World) (R : Bool) (hR : Hid (R = true ↔ (hb = true ∨ 0 < ln ∨ 0 < dn))) :
    Calls Tryz.prog 106 #[.agg #[.int .i64 g, .int .i64 n, .int .i64 i, .bool hb, .int .i64 v, .slice lp ln lc, .slice dp dn dc]] w fun e w' => e = .returned (.bool R) ∧ Below w.heap.size w w' := by
  have HB := hide (below_alloc w (.cells #[.int .i64 g, .int .i64 n, .int .i64 i, .bool hb, .int .i64 v, .slice lp ln lc, .slice dp dn dc] 73) w.heap.size (Nat.le_refl _))
  cases hb with
  | true =>
    obtain rfl : R = true := hR.out.2 (Or.inl rfl)
    go_enter Tryz.func106, Tryz.ntmps106
    go_wp2
    go_ret
    exact ⟨rfl, HB.out⟩
  | false =>
    by_cases h1 : 0 < ln
    · obtain rfl : R = true := hR.out.2 (Or.inr (Or.inl h1))
      have h2 : (ln : Int) > 0 := by omega
      go_enter Tryz.func106, Tryz.ntmps106
      go_wp2
      go_ret
      exact ⟨rfl, HB.out⟩
    · have h1' : ¬ (ln : Int) > 0 := by omega
      by_cases h2 : 0 < dn
      · obtain rfl : R = true := hR.out.2 (Or.inr (Or.inr h2))
        have h3 : (dn : Int) > 0 := by omega
        go_enter Tryz.func106, Tryz.ntmps106
        go_wp2
        go_ret
        exact ⟨rfl, HB.out⟩
      · have h2' : ¬ (dn : Int) > 0 := by omega
        obtain rfl : R = false := mayF hR.out (fun e => by rcases e with e | e | e; exact absurd e (by decide); exact h1 e; exact h2 e)
        go_enter Tryz.func106, Tryz.ntmps106
        go_wp2
        go_ret
        exact ⟨rfl, HB.out⟩


theorem bool_of (p : Prop) : ∃ R : Bool, (R = true ↔ p) := by
  by_cases h : p
  · exact ⟨true, fun _ => h, fun _ => rfl⟩
  · exact ⟨false, fun e => (by cases e), fun e => absurd e h⟩
set_option maxRecDepth 100000 in
set_option maxHeartbeats 2000000 in
theorem cellMay_any (c : Cw) (lp dp : Option Addr) (lc dc : Nat) (w : World) (hd : RdF w dp c.d.length dc c.d) (R : Bool) (hR : Hid (R = true ↔ CelOK c)) :
    Calls Tryz.prog 73 #[.agg #[.int .i64 c.k.g, .int .i64 c.k.n, .int .i64 c.k.i, .bool c.h, .int .i64 c.v, .slice lp c.l.length lc, .slice dp c.d.length dc]] w fun e w' => e = .returned (.bool R) ∧ Below w.heap.size w w' := by
  obtain ⟨FB, hFB⟩ := bool_of (FldT c.d c.d.length)
  obtain ⟨SB, hSB⟩ : ∃ S : Bool, (S = true ↔ (c.h = true ∨ 0 < c.l.length ∨ 0 < c.d.length)) := bool_of _
  obtain ⟨KB, hKB⟩ : ∃ K : Bool, keyB c.k.g c.k.n c.k.i = K := ⟨_, rfl⟩
  have hobj : Hid (∃ o, o = (Obj.cells #[.int .i64 c.k.g, .int .i64 c.k.n, .int .i64 c.k.i, .bool c.h, .int .i64 c.v, .slice lp c.l.length lc, .slice dp c.d.length dc] 73)) := ⟨_, rfl⟩
  have hbb := below_alloc w (.cells #[.int .i64 c.k.g, .int .i64 c.k.n, .int .i64 c.k.i, .bool c.h, .int .i64 c.v, .slice lp c.l.length lc, .slice dp c.d.length dc] 73) w.heap.size (Nat.le_refl _)
  have HB := hide hbb
  have HN := hide (heap_alloc_new w (.cells #[.int .i64 c.k.g, .int .i64 c.k.n, .int .i64 c.k.i, .bool c.h, .int .i64 c.v, .slice lp c.l.length lc, .slice dp c.d.length dc] 73))
  have HK : Hid (∀ W, Calls Tryz.prog 105 #[.agg #[.int .i64 c.k.g, .int .i64 c.k.n, .int .i64 c.k.i]] W fun e w' => e = .returned (.bool KB) ∧ Below W.heap.size W w') := fun W => by rw [← hKB]; exact stKeyMay c.k W
  have HS : Hid (∀ W, Calls Tryz.prog 106 #[.agg #[.int .i64 c.k.g, .int .i64 c.k.n, .int .i64 c.k.i, .bool c.h, .int .i64 c.v, .slice lp c.l.length lc, .slice dp c.d.length dc]] W fun e w' => e = .returned (.bool SB) ∧ Below W.heap.size W w') := fun W => hasSome_any _ _ _ _ _ _ _ _ _ _ _ W SB hSB
  have HF : Hid (∀ W, Below w.heap.size w W → Calls Tryz.prog 107 #[.slice dp c.d.length dc] W fun e w' => e = .returned (.bool FB) ∧ Below W.heap.size W w') := fun W hW => fieldsMay_any dp _ dc c.d W (hd.later hW) FB hFB
  have HOK : Hid (CelOK c ↔ (KB = true ∧ SB = true ∧ (c.h = true ∨ c.v = 0) ∧ c.l.length ≤ 100 ∧ FB = true)) := by
    show _ ↔ _
    unfold CelOK
    rw [hKB, ← hSB, ← hFB]
  clear hFB hSB hKB hbb hd hobj
  obtain ⟨⟨κ, kw⟩, ch, cv, cl, cd⟩ := c
  simp only at HB HN HK HS HF HOK
  obtain ⟨ln, hln⟩ : ∃ n, cl.length = n := ⟨_, rfl⟩
  simp only [hln] at *
  obtain ⟨n0, n1, n2, n3, n4, n5, n6⟩ := cells_seven HN.out
  go_enter Tryz.func73, Tryz.ntmps73
  go_wp2_with fail
  refine (HK.out _).mono ?_
  rintro e w1 ⟨rfl, hb1⟩
  have HB1 := hide (HB.out.trans (hb1.mono HB.out.size))
  have HN1 := hide (boxed_old HN.out hb1)
  clear n0 n1 n2 n3 n4 n5 n6
  clear hb1
  obtain ⟨n0, n1, n2, n3, n4, n5, n6⟩ := cells_seven HN1.out
  cases KB with
  | false =>
    obtain rfl : R = false := mayF hR.out (fun e => by have := (HOK.out.1 e).1; exact absurd this (by decide))
    go_wp2
    go_ret
    exact ⟨rfl, HB1.out⟩
  | true =>
    go_wp2_with fail
    refine (HS.out _).mono ?_
    rintro e w2 ⟨rfl, hb2⟩
    have HB2 := hide (HB1.out.trans (hb2.mono HB1.out.size))
    have HN2 := hide (boxed_old HN1.out hb2)
    clear n0 n1 n2 n3 n4 n5 n6
    clear hb2
    obtain ⟨n0, n1, n2, n3, n4, n5, n6⟩ := cells_seven HN2.out
    cases SB with
    | false =>
      obtain rfl : R = false := mayF hR.out (fun e => by have := (HOK.out.1 e).2.1; exact absurd this (by decide))
      go_wp2
      go_ret
      exact ⟨rfl, HB2.out⟩
    | true =>
      by_cases hl : ln ≤ 100
      case neg =>
        obtain rfl : R = false := mayF hR.out (fun e => hl (HOK.out.1 e).2.2.2.1)
        have hl2 : ¬ (ln : Int) ≤ 100 := by omega
        cases ch <;> go_wp2
        all_goals
          go_ret
          exact ⟨rfl, HB2.out⟩
      case pos =>
        have hl2 : (ln : Int) ≤ 100 := by omega
        by_cases hv : ch = true ∨ cv = 0
        case neg =>
          obtain rfl : R = false := mayF hR.out (fun e => hv (HOK.out.1 e).2.2.1)
          have hv1 : ch = false := by cases ch with | false => rfl | true => exact absurd (Or.inl rfl) hv
          have hv2 : ¬ cv = 0 := fun e => hv (Or.inr e)
          subst hv1
          clear hv
          go_wp2
          go_ret
          exact ⟨rfl, HB2.out⟩
        case pos =>
          have HFF := hide (HF.out _ HB2.out)
          have HRF : Hid (R = FB) := by
            show R = FB
            cases FB with
            | true => exact hR.out.2 (HOK.out.2 (by refine ⟨?_, ?_, hv, hl, ?_⟩ <;> trivial))
            | false => exact mayF hR.out (fun e => by have := (HOK.out.1 e).2.2.2.2; exact absurd this (by decide))
          have HRB : Hid (∀ w3, Below w2.heap.size w2 w3 → Below w.heap.size w w3) := fun w3 h => HB2.out.trans (h.mono HB2.out.size)
          clear HF HS HK HOK hR HB HN HB1 HN1 HB2
          cases ch with
          | true =>
            clear hv
            go_wp2_with fail
            refine HFF.out.mono ?_
            rintro e w3 ⟨rfl, hb3⟩
            have HB3 := hide (HRB.out _ hb3)
            rw [← HRF.out]
            clear hb3
            go_wp2
            go_ret
            exact ⟨rfl, HB3.out⟩
          | false =>
            obtain rfl : cv = 0 := by simpa using hv
            clear hv
            go_wp2_with fail
            refine HFF.out.mono ?_
            rintro e w3 ⟨rfl, hb3⟩
            have HB3 := hide (HRB.out _ hb3)
            rw [← HRF.out]
            clear hb3
            go_wp2
            go_ret
            exact ⟨rfl, HB3.out⟩


/-- The first t cells may be. -/
def CsT (cs : List Cw) (t : Nat) : Prop := ∀ i c, i < t → cs[i]? = some c → CelOK c ∧ ∀ j q, i = j + 1 → cs[j]? = some q → k3Less q.k c.k = true
theorem csT_0 (cs : List Cw) : CsT cs 0 := fun i _ h => absurd h (Nat.not_lt_zero i)
theorem csT_next {cs : List Cw} {t : Nat} {c : Cw} (h : CsT cs t) (hc : cs[t]? = some c) (h1 : CelOK c) (h2 : ∀ j q, t = j + 1 → cs[j]? = some q → k3Less q.k c.k = true) : CsT cs (t + 1) := fun i q hi hq => by
  by_cases e : i = t
  · subst e
    rw [hc] at hq
    cases hq
    exact ⟨h1, h2⟩
  · exact h i q (by omega) hq
theorem csT_bad {cs : List Cw} {t : Nat} {c : Cw} (hc : cs[t]? = some c) (h : ¬ CelOK c) : ¬ CsT cs cs.length := fun e => h (e t c (List.getElem?_eq_some_iff.1 hc).1 hc).1
theorem csT_bad2 {cs : List Cw} {t : Nat} {c q : Cw} (hc : cs[t + 1]? = some c) (hq : cs[t]? = some q) (h : k3Less q.k c.k = false) : ¬ CsT cs cs.length := fun e => by
  have := (e (t + 1) c (List.getElem?_eq_some_iff.1 hc).1 hc).2 t q rfl hq
  rw [h] at this
  cases this

set_option maxRecDepth 100000 in
set_option maxHeartbeats 4000000 in
theorem cellsMay_any (v : Value) (cs : List Cw) (w : World) (h : RdW w v cs) (hn : cs.length ≤ 100000) (R : Bool) (hR : Hid (R = true ↔ CsT cs cs.length)) :
    Calls Tryz.prog 54 #[v] w fun e w' => e = .returned (.bool R) ∧ Below w.heap.size w w' := by
  obtain ⟨pa, cp, rfl, hc⟩ := h
  have HC := hide hc
  clear hc
  obtain ⟨N, hN⟩ : ∃ N, cs.length = N := ⟨_, rfl⟩
  rw [hN] at HC hn hR ⊢
  have HN := hide hN
  clear hN
  go_enter Tryz.func54, Tryz.ntmps54
  go_wp2
  go_loopg [7] N (fun gm ix wr => ∃ t : Nat, gm = N - t ∧ t ≤ N ∧ ix = .int .i64 t ∧ Hid (CsT cs t) ∧ Hid (Below w.heap.size w wr))
  case atStart => exact ⟨0, rfl, by omega, rfl, csT_0 cs, Below.refl _ _⟩
  case round =>
    obtain ⟨t, rfl, ht, rfl, HT, HB⟩ := hrel
    by_cases htn : t < N
    · obtain ⟨b, o, rfl, hc⟩ := HC.out (by omega)
      obtain ⟨c, hct⟩ : ∃ c, cs[t]? = some c := ⟨_, List.getElem?_eq_getElem (by rw [HN.out]; exact htn)⟩
      obtain ⟨lp, lc, dp, dc, hA⟩ := hc t c hct
      have hA2 := hA.later HB.out
      obtain ⟨q0, q1, q2, q3, q4, q5, q6, rl, rd⟩ := hA2
      have HPV : Hid (∀ j, t = j + 1 → ∃ q, cs[j]? = some q ∧ ∀ W, Below w.heap.size w W → W.cell? ⟨b, o + j * 7, none⟩ = some (.int .i64 q.k.g) ∧ W.cell? ⟨b, o + j * 7 + 1, none⟩ = some (.int .i64 q.k.n) ∧ W.cell? ⟨b, o + j * 7 + 2, none⟩ = some (.int .i64 q.k.i)) := fun j e => by
        obtain ⟨q, hq⟩ : ∃ q, cs[j]? = some q := ⟨_, List.getElem?_eq_getElem (by rw [HN.out]; omega)⟩
        obtain ⟨_, _, _, _, hq7⟩ := hc j q hq
        exact ⟨q, hq, fun W hW => ⟨(hq7.later hW).c0, (hq7.later hW).c1, (hq7.later hW).c2⟩⟩
      have HCT := hide hct
      obtain ⟨CB, hCB⟩ := bool_of (CelOK c)
      have HBo := hide (below_alloc wr (.cells #[.int .i64 c.k.g, .int .i64 c.k.n, .int .i64 c.k.i, .bool c.h, .int .i64 c.v, .slice lp c.l.length lc, .slice dp c.d.length dc] 73) wr.heap.size (Nat.le_refl _))
      have HNb := hide (heap_alloc_new wr (.cells #[.int .i64 c.k.g, .int .i64 c.k.n, .int .i64 c.k.i, .bool c.h, .int .i64 c.v, .slice lp c.l.length lc, .slice dp c.d.length dc] 73))
      have HCM : Hid (Calls Tryz.prog 73 #[.agg #[.int .i64 c.k.g, .int .i64 c.k.n, .int .i64 c.k.i, .bool c.h, .int .i64 c.v, .slice lp c.l.length lc, .slice dp c.d.length dc]] (wr.alloc (.cells #[.int .i64 c.k.g, .int .i64 c.k.n, .int .i64 c.k.i, .bool c.h, .int .i64 c.v, .slice lp c.l.length lc, .slice dp c.d.length dc] 73)) fun e w' => e = .returned (.bool CB) ∧ Hid (Below w.heap.size w w' ∧ w'.heap[wr.heap.size]? = some (.cells #[.int .i64 c.k.g, .int .i64 c.k.n, .int .i64 c.k.i, .bool c.h, .int .i64 c.v, .slice lp c.l.length lc, .slice dp c.d.length dc] 73))) := by
        refine Calls.mono (cellMay_any c lp dp lc dc _ (rd.later HBo.out) CB hCB) ?_
        rintro e w' ⟨r1, r2⟩
        exact ⟨r1, HB.out.trans ((HBo.out.trans (r2.mono HBo.out.size)).mono HB.out.size), boxed_old HNb.out r2⟩
      have HCB := hide hCB
      clear hc hct hA rl rd hCB
      have HOK : Hid (c = c) := rfl
      obtain ⟨⟨⟨cg, cn, ci⟩, kw⟩, ch, cv, cl, cd⟩ := c
      obtain ⟨ln, hln⟩ : ∃ n, cl.length = n := ⟨_, rfl⟩
      obtain ⟨dn, hdn⟩ : ∃ n, cd.length = n := ⟨_, rfl⟩
      simp only [hln, hdn] at q0 q1 q2 q3 q4 q5 q6 HCM HNb HBo
      clear hln hdn HOK
      go_wp2_with fail
      refine HCM.out.mono ?_
      rintro e w1 ⟨rfl, H1⟩
      clear HCM q0 q1 q2 q3 q4 q5 q6
      have HB1 := hide H1.out.1
      obtain ⟨n0, n1, n2, _, _, _, _⟩ := cells_seven H1.out.2
      cases CB with
      | false =>
        obtain rfl : R = false := mayF hR.out (by rw [← HN.out]; exact csT_bad HCT.out (fun e => by have := HCB.out.2 e; exact absurd this (by decide)))
        clear n0 n1 n2 H1
        go_wp2
        go_ret
        exact ⟨rfl, HB1.out⟩
      | true =>
        rcases Nat.eq_zero_or_pos t with h0 | hpos
        · have HT2 := hide (csT_next HT.out HCT.out (HCB.out.1 (by trivial)) (fun j q e _ => by omega))
          have hgt : decide ((t : Int) > 0) = false := decide_eq_false (by omega)
          have hgt2 : ¬ (0 : Int) < (t : Int) := by omega
          have hgt3 : decide ((0 : Int) < (t : Int)) = false := decide_eq_false hgt2
          have hgt4 : ¬ 0 < t := by omega
          have hgt5 : decide (0 < t) = false := decide_eq_false hgt4
          clear HT HPV HCT h0 HCB
          go_wp2_with fail
          go_quiet (fail)
          have HB3 := hide (below_drewN HB1.out nq)
          clear n0 n1 n2 HB1 H1
          go_wp2
          go_roundg (N - (t + 1))
          case measure => omega
          case rel => exact ⟨t + 1, rfl, by omega, by simp, HT2, HB3⟩
        · obtain ⟨j, rfl⟩ : ∃ j, t = j + 1 := ⟨t - 1, by omega⟩
          obtain ⟨⟨⟨⟨qg, qn, qi⟩, qw⟩, qh, qv, ql, qd⟩, hq, hqc⟩ := HPV.out j rfl
          have hQ := hqc _ (HB1.out.drew)
          obtain ⟨LB, hLB⟩ : ∃ B, lessK (qg, qn, qi) (cg, cn, ci) = B := ⟨_, rfl⟩
          have QL : Hid (∀ (d : Nat) (os : Array Obj), Calls Tryz.prog 74 #[.agg #[.int .i64 qg, .int .i64 qn, .int .i64 qi], .agg #[.int .i64 cg, .int .i64 cn, .int .i64 ci]] (grow (redrawn w1 d) os) fun e w' => e = .returned (.bool LB) ∧ ∃ p : Regrown, w' = grow (redrawn w1 p.d) p.os) := fun d os => by
            rw [← hLB]
            exact Calls.regrown_of (less_any (qg, qn, qi) (cg, cn, ci) _)
          obtain ⟨k0, k1, k2⟩ := hqc _ HB1.out
          have z0 := cell_regrown k0
          have z1 := cell_regrown k1
          have z2 := cell_regrown k2
          have z3 := cell_regrown n0
          have z4 := cell_regrown n1
          have z5 := cell_regrown n2
          have hjz : (j : Int) < (N : Int) := by omega
          have hj0 : (0 : Int) ≤ (j : Int) := by omega
          have hsub : ((j + 1 : Nat) : Int) - 1 = (j : Int) := by omega
          have hgt : decide (((j + 1 : Nat) : Int) > 0) = true := decide_eq_true (by omega)
          have HQJ := hide hq
          clear n0 n1 n2 hQ hqc HPV hq k0 k1 k2
          go_wp2_with fail
          refine wp_region_quiet_below (by kernel_rfl) (by kernel_rfl) ?_
          repeat (go_big_quiet_step ((go_at_call 74; exact QL.out _ _)))
          refine wpQuiet_nil ?_
          intro _ hw'
          obtain ⟨⟨dq, osq⟩, hw''⟩ := hw'
          subst hw''
          have hbq := below_regrown w1 dq osq
          clear z0 z1 z2 z3 z4 z5 QL
          have HB2 := hide (HB1.out.trans (hbq.mono HB1.out.size))
          generalize grow (redrawn w1 dq) osq = WX at *
          clear hbq HB1 H1
          cases LB with
          | true =>
            have HT2 := hide (csT_next HT.out HCT.out (HCB.out.1 (by trivial)) (fun j' q e e' => by
              have : j' = j := by omega
              subst this
              have h1 := HQJ.out
              rw [e'] at h1
              cases h1
              exact hLB))
            clear HT HCT HCB HQJ hLB
            go_wp2
            go_roundg (N - (j + 1 + 1))
            case measure => omega
            case rel => exact ⟨j + 1 + 1, rfl, by omega, by simp, HT2, HB2⟩
          | false =>
            obtain rfl : R = false := mayF hR.out (by rw [← HN.out]; exact csT_bad2 HCT.out HQJ.out hLB)
            clear HT HCT HCB HQJ hLB
            go_wp2
            go_ret
            exact ⟨rfl, HB2.out⟩
    · have htz : ¬ (t : Int) < (N : Int) := by omega
      obtain rfl : R = true := hR.out.2 (fun i c hi hc => HT.out i c (by omega) hc)
      go_wp2
      go_ret
      exact ⟨rfl, HB.out⟩
end Go.Proofs.YtiofkcmdgijjoaaGreat
