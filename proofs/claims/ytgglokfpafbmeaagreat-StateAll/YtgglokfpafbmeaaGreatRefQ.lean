/- The document's state, as it lies in a block; one change of whatever kind. -/
import Derived.Test.YtgglokfpafbmeaaGreatRefP
namespace Go.Proofs.YtgglokfpafbmeaaGreat
open Go.RowKit Go.MapKept Go.ChangeMaps

/-- What a spot's cells hold. -/
structure SpOK (c : Nat → Value) (κ : K3) (V : Option Int) (L : List Int) (D : List (Int × Int)) (l : Value) : Prop where
  h : c (offK κ) = .bool V.isSome
  v : c (offK κ + 1) = .int .i64 (V.getD 0)
  l : c (offK κ + 2) = l
  i : ∀ f : Nat, f < 8 → c (offK κ + 3 + f) = .bool (fldZ D (f : Int)).isSome
  d : ∀ f : Nat, f < 8 → c (offK κ + 11 + f) = .int .i64 ((fldZ D (f : Int)).getD 0)
theorem SpOK.same {c c' : Nat → Value} {κ : K3} {V : Option Int} {L : List Int} {D : List (Int × Int)} {l : Value} (h : SpOK c κ V L D l) (hc : ∀ t, t < 19 → c' (offK κ + t) = c (offK κ + t)) : SpOK c' κ V L D l :=
  ⟨(show c' (offK κ) = c (offK κ) by have := hc 0 (by omega); rw [Nat.add_zero] at this; exact this).trans h.h, (hc 1 (by omega)).trans h.v, (hc 2 (by omega)).trans h.l, fun f hf => by
    have := hc (3 + f) (by omega)
    rw [← Nat.add_assoc] at this
    exact this.trans (h.i f hf), fun f hf => by
    have := hc (11 + f) (by omega)
    rw [← Nat.add_assoc] at this
    exact this.trans (h.d f hf)⟩

/-- The document's state at x; its rows are among O. -/
structure Rf (w : World) (O : Nat → Prop) (x : Nat) (a : Ab) : Prop where
  own : O x
  dat : ∃ (c : Nat → Value) (lv : K3 → Value), Bx w x c ∧ (∀ κ, InK κ → SpOK c κ (a.V κ) (a.L κ) (a.D κ) (lv κ)) ∧ ∀ κ, InK κ → RowI w (lv κ) (a.L κ) ∧ ∀ j, (lv κ).ownBlock = some j → O j ∧ j ≠ x
  out : ∀ κ, ¬ InK κ → a.V κ = none ∧ a.L κ = [] ∧ a.D κ = []
  ok : AbOK a
  ll : ∀ κ, (a.L κ).length ≤ 100
section
variable {w w' : World} {O O' S : Nat → Prop} {x : Nat} {a a' : Ab}
theorem Rf.tch (h : Rf w O x a) (ht : Tch S w w') (hS : ∀ k, O k → k < w.heap.size → ¬ S k) : Rf w' O x a := by
  obtain ⟨c, lv, h1, h2, h3⟩ := h.dat
  have hx := h1.lt
  refine ⟨h.own, ⟨c, lv, h1.at (ht.block x hx (hS x h.own hx)), h2, fun κ hκ => ⟨RowO.tch ht (h3 κ hκ).1 (fun j hj => hS j ((h3 κ hκ).2 j hj).1 (World.ownsRow.lt (h3 κ hκ).1 j hj).2), (h3 κ hκ).2⟩⟩, h.out, h.ok, h.ll⟩
theorem Rf.later (h : Rf w O x a) (hb : Below w.heap.size w w') : Rf w' O x a := h.tch (S := fun _ => False) (Below.tch hb) (fun _ _ _ e => e)
theorem Rf.wide (h : Rf w O x a) (hO : ∀ k, O k → k < w.heap.size → O' k) : Rf w O' x a := by
  obtain ⟨c, lv, h1, h2, h3⟩ := h.dat
  exact ⟨hO x h.own h1.lt, ⟨c, lv, h1, h2, fun κ hκ => ⟨(h3 κ hκ).1, fun j hj => ⟨hO j ((h3 κ hκ).2 j hj).1 (World.ownsRow.lt (h3 κ hκ).1 j hj).2, ((h3 κ hκ).2 j hj).2⟩⟩⟩, h.out, h.ok, h.ll⟩
theorem Rf.lt (h : Rf w O x a) : x < w.heap.size := by obtain ⟨c, lv, h1, _⟩ := h.dat; exact h1.lt

/-- One spot turns. -/
theorem rf_upd {c c' : Nat → Value} {lv : K3 → Value} {κ : K3} {l' : Value} (h : Rf w O x a) (hB : Bx w' x c') (hS : ∀ κ', InK κ' → SpOK c κ' (a.V κ') (a.L κ') (a.D κ') (lv κ')) (hR : ∀ κ', InK κ' → RowI w (lv κ') (a.L κ') ∧ ∀ j, (lv κ').ownBlock = some j → O j ∧ j ≠ x)
    (ht : Tch (fun k => k = x) w w') (hκ : InK κ) (hc : ∀ o, (o < offK κ ∨ offK κ + 19 ≤ o) → c' o = c o) (hO : ∀ k, O k → O' k) (hoth : ∀ κ', κ' ≠ κ → a'.V κ' = a.V κ' ∧ a'.L κ' = a.L κ' ∧ a'.D κ' = a.D κ')
    (hsp : SpOK c' κ (a'.V κ) (a'.L κ) (a'.D κ) l') (hrow : RowI w' l' (a'.L κ)) (hrb : ∀ j, l'.ownBlock = some j → O' j ∧ j ≠ x) (hok : OkF (a'.D κ)) (hll : (a'.L κ).length ≤ 100) : Rf w' O' x a' := by
  refine ⟨hO x h.own, ⟨c', fun κ' => if κ' = κ then l' else lv κ', hB, fun κ' hκ' => ?_, fun κ' hκ' => ?_⟩, fun κ' hκ' => ?_, fun κ' => ?_, fun κ' => ?_⟩
  · by_cases e : κ' = κ
    · subst e
      show SpOK c' κ' _ _ _ (if κ' = κ' then l' else lv κ')
      rw [if_pos rfl]
      exact hsp
    · obtain ⟨e1, e2, e3⟩ := hoth κ' e
      show SpOK c' κ' _ _ _ (if κ' = κ then l' else lv κ')
      rw [if_neg e, e1, e2, e3]
      refine (hS κ' hκ').same (fun t htt => hc _ ?_)
      rcases Nat.lt_or_ge (offK κ' + t) (offK κ) with h1 | h1
      · exact Or.inl h1
      · rcases Nat.lt_or_ge (offK κ' + t) (offK κ + 19) with h2 | h2
        · exact absurd (off_inj hκ' hκ htt (u := offK κ' + t - offK κ) (by omega) (by omega)).1 e
        · exact Or.inr h2
  · by_cases e : κ' = κ
    · subst e
      show RowI w' (if κ' = κ' then l' else lv κ') _ ∧ _
      simp only [if_true]
      exact ⟨hrow, hrb⟩
    · obtain ⟨e1, e2, e3⟩ := hoth κ' e
      show RowI w' (if κ' = κ then l' else lv κ') _ ∧ _
      simp only [if_neg e, e2]
      exact ⟨RowO.tch ht (hR κ' hκ').1 (fun j hj => ((hR κ' hκ').2 j hj).2), fun j hj => ⟨hO j ((hR κ' hκ').2 j hj).1, ((hR κ' hκ').2 j hj).2⟩⟩
  · have e : κ' ≠ κ := fun e => hκ' (e ▸ hκ)
    obtain ⟨e1, e2, e3⟩ := hoth κ' e
    rw [e1, e2, e3]
    exact h.out κ' hκ'
  · by_cases e : κ' = κ
    · subst e; exact hok
    · rw [(hoth κ' e).2.2]; exact h.ok κ'
  · by_cases e : κ' = κ
    · subst e; exact hll
    · rw [(hoth κ' e).2.1]; exact h.ll κ'
end

theorem upd_o {f : K3 → Option Int} {κ k : K3} (v : Option Int) (h : k ≠ κ) : updK f κ v k = f k := by unfold updK; rw [if_neg h]
theorem upd_s {f : K3 → Option Int} {κ : K3} (v : Option Int) : updK f κ v κ = v := by unfold updK; rw [if_pos rfl]
theorem updR_o {α : Type} {f : K3 → List α} {κ k : K3} (v : List α) (h : k ≠ κ) : updR f κ v k = f k := by unfold updR; rw [if_neg h]
theorem updR_s {α : Type} {f : K3 → List α} {κ : K3} (v : List α) : updR f κ v κ = v := by unfold updR; rw [if_pos rfl]
theorem updC_o {c : Nat → Value} {p o : Nat} {v : Value} (h : o ≠ p) : updC c p v o = c o := by unfold updC; rw [if_neg h]
theorem updC_s {c : Nat → Value} {p : Nat} {v : Value} : updC c p v p = v := by unfold updC; rw [if_pos rfl]

set_option maxRecDepth 100000 in
/-- One change. -/
theorem refOne {w : World} {O : Nat → Prop} {x : Nat} {a : Ab} (h : Rf w O x a) (m : Mq) (hm : mayB m.m = true) :
    Calls Tryz.prog 58 #[.pointer (some ⟨x, 0, none⟩), mV m.m] w fun e w' => ((m.c = 3 ∧ 100 ≤ (a.L m.k).length) → e = .returned (.bool false)) ∧
      (¬ (m.c = 3 ∧ 100 ≤ (a.L m.k).length) → e = .returned (.bool true) ∧ Rf w' (fun k => O k ∨ w.heap.size ≤ k) x (doQ a m)) ∧ Tch (fun k => k = x) w w' := by
  have h5 := may_range hm
  have hko : 1 ≤ m.c ∧ m.c ≤ 6 ∧ InK m.k ∧ (m.c = 6 → 0 ≤ m.f ∧ m.f < 8) := by
    simp only [mayB, Bool.and_eq_true] at hm
    obtain ⟨⟨⟨h1, h2⟩, h3⟩, _⟩ := hm
    have h1' := of_decide_eq_true h1
    refine ⟨h1'.1, h1'.2, (inK_iff m.k).1 h2, fun e => ?_⟩
    unfold fieldB hasF at h3
    have e' : m.m.k = 6 := e
    simp [e'] at h3
    exact of_decide_eq_true h3
  obtain ⟨k1, k6, hκ, h6⟩ := hko
  obtain ⟨c, lv, hB, hS, hR⟩ := h.dat
  obtain ⟨mc, κ, mf, mv⟩ := m
  simp only at k1 k6 hκ h6 h5
  obtain ⟨g0, g1, n0, n1, i0, i1⟩ := hκ
  have hκ : InK κ := ⟨g0, g1, n0, n1, i0, i1⟩
  obtain ⟨g, hg⟩ : ∃ g : Nat, κ.g = (g : Int) := ⟨κ.g.toNat, by omega⟩
  obtain ⟨n, hn⟩ : ∃ n : Nat, κ.n = (n : Int) := ⟨κ.n.toNat, by omega⟩
  obtain ⟨i, hi⟩ : ∃ i : Nat, κ.i = (i : Int) := ⟨κ.i.toNat, by omega⟩
  have hp : g * 912 + n * 456 + i * 19 = offK κ := by unfold offK; rw [hg, hn, hi]; simp
  have hgl : g < 4 := by omega
  have hnl : n < 2 := by omega
  have hil : i < 24 := by omega
  have hO : ∀ k, O k → (O k ∨ w.heap.size ≤ k) := fun k hk => Or.inl hk
  have hsp := hS κ hκ
  have hrow := hR κ hκ
  show Calls _ _ #[_, .agg #[.int .i64 mc, .int .i64 κ.g, .int .i64 κ.n, .int .i64 κ.i, .int .i64 mf, .int .i64 mv]] w _
  rw [hg, hn, hi]
  have hc6 : mc = 1 ∨ mc = 2 ∨ mc = 3 ∨ mc = 4 ∨ mc = 5 ∨ mc = 6 := by omega
  rcases hc6 with rfl | rfl | rfl | rfl | rfl | rfl
  · refine (one_1 x g n i mf mv c w hB hgl hnl hil).mono ?_
    rintro e w' ⟨r1, r2, r3⟩
    rw [hp] at r2
    refine ⟨fun e => absurd (show (1 : Int) = 3 from e.1) (by decide), fun _ => ⟨r1, ?_⟩, r3⟩
    refine rf_upd h r2 hS hR r3 hκ (fun o ho => by rw [updC_o (by omega), updC_o (by omega)]) hO (a' := ⟨updK a.V κ (some mv), a.L, a.D⟩) (fun κ' e => ⟨upd_o _ e, rfl, rfl⟩) (l' := lv κ) ?_ (RowO.tch r3 hrow.1 (fun j hj => (hrow.2 j hj).2)) (fun j hj => ⟨Or.inl (hrow.2 j hj).1, (hrow.2 j hj).2⟩) (h.ok κ) (h.ll κ)
    show SpOK _ κ (updK a.V κ (some mv) κ) (a.L κ) (a.D κ) (lv κ)
    rw [upd_s]
    exact ⟨by rw [updC_o (by omega), updC_s]; rfl, by rw [updC_s]; rfl, by rw [updC_o (by omega), updC_o (by omega)]; exact hsp.l, fun f hf => by rw [updC_o (by omega), updC_o (by omega)]; exact hsp.i f hf, fun f hf => by rw [updC_o (by omega), updC_o (by omega)]; exact hsp.d f hf⟩
  · refine (one_2 x g n i mf mv c w hB hgl hnl hil).mono ?_
    rintro e w' ⟨r1, r2, r3⟩
    rw [hp] at r2
    refine ⟨fun e => absurd (show (2 : Int) = 3 from e.1) (by decide), fun _ => ⟨r1, ?_⟩, r3⟩
    refine rf_upd h r2 hS hR r3 hκ (fun o ho => by rw [updC_o (by omega), updC_o (by omega)]) hO (a' := ⟨updK a.V κ none, a.L, a.D⟩) (fun κ' e => ⟨upd_o _ e, rfl, rfl⟩) (l' := lv κ) ?_ (RowO.tch r3 hrow.1 (fun j hj => (hrow.2 j hj).2)) (fun j hj => ⟨Or.inl (hrow.2 j hj).1, (hrow.2 j hj).2⟩) (h.ok κ) (h.ll κ)
    show SpOK _ κ (updK a.V κ none κ) (a.L κ) (a.D κ) (lv κ)
    rw [upd_s]
    exact ⟨by rw [updC_o (by omega), updC_s]; rfl, by rw [updC_s]; rfl, by rw [updC_o (by omega), updC_o (by omega)]; exact hsp.l, fun f hf => by rw [updC_o (by omega), updC_o (by omega)]; exact hsp.i f hf, fun f hf => by rw [updC_o (by omega), updC_o (by omega)]; exact hsp.d f hf⟩
  · obtain ⟨la, lc, e1, hrd, _⟩ := RowI.slice hrow.1
    have hcl : c (g * 912 + n * 456 + i * 19 + 2) = .slice la (a.L κ).length lc := by rw [hp, hsp.l]; exact e1
    by_cases h100 : 100 ≤ (a.L κ).length
    · refine (one_3f x g n i mf mv c w hB hgl hnl hil la lc (a.L κ) hcl h100).mono ?_
      rintro e w' ⟨r1, r2⟩
      exact ⟨fun _ => r1, fun e => absurd ⟨rfl, h100⟩ e, Below.tch r2⟩
    · refine (one_3 x g n i mf mv c w hB hgl hnl hil la lc (a.L κ) hcl hrd (by omega)).mono ?_
      rintro e w' ⟨r1, l', r2, r3, r4, r5⟩
      rw [hp] at r2
      refine ⟨fun e => absurd e.2 h100, fun _ => ⟨r1, ?_⟩, r3⟩
      refine rf_upd h r2 hS hR r3 hκ (fun o ho => by rw [updC_o (by omega)]) hO (a' := ⟨a.V, updR a.L κ (a.L κ ++ [mv]), a.D⟩) (fun κ' e => ⟨rfl, updR_o _ e, rfl⟩) (l' := l') ?_ (by show RowI w' l' (updR a.L κ (a.L κ ++ [mv]) κ); rw [updR_s]; exact r4) (fun j hj => ⟨Or.inr (r5 j hj), fun e => by have := r5 j hj; have := hB.lt; omega⟩) (h.ok κ) (by show (updR a.L κ (a.L κ ++ [mv]) κ).length ≤ 100; rw [updR_s, List.length_append]; simp; omega)
      show SpOK _ κ (a.V κ) (updR a.L κ (a.L κ ++ [mv]) κ) (a.D κ) l'
      exact ⟨by rw [updC_o (by omega)]; exact hsp.h, by rw [updC_o (by omega)]; exact hsp.v, updC_s, fun f hf => by rw [updC_o (by omega)]; exact hsp.i f hf, fun f hf => by rw [updC_o (by omega)]; exact hsp.d f hf⟩
  · refine (one_4 x g n i mf mv c w hB hgl hnl hil).mono ?_
    rintro e w' ⟨r1, r2, r3⟩
    rw [hp] at r2
    refine ⟨fun e => absurd (show (4 : Int) = 3 from e.1) (by decide), fun _ => ⟨r1, ?_⟩, r3⟩
    refine rf_upd h r2 hS hR r3 hκ (fun o ho => by rw [updC_o (by omega)]) hO (a' := ⟨a.V, updR a.L κ [], a.D⟩) (fun κ' e => ⟨rfl, updR_o _ e, rfl⟩) (l' := .slice none 0 0) ?_ (by show RowI w' (.slice none 0 0) (updR a.L κ [] κ); rw [updR_s]; exact World.ownsRow_nil _ _ _ _) (fun j hj => by cases hj) (h.ok κ) (by show (updR a.L κ [] κ).length ≤ 100; rw [updR_s]; simp)
    show SpOK _ κ (a.V κ) (updR a.L κ [] κ) (a.D κ) _
    exact ⟨by rw [updC_o (by omega)]; exact hsp.h, by rw [updC_o (by omega)]; exact hsp.v, updC_s, fun f hf => by rw [updC_o (by omega)]; exact hsp.i f hf, fun f hf => by rw [updC_o (by omega)]; exact hsp.d f hf⟩
  · obtain ⟨f0, f8⟩ := h5 rfl
    obtain ⟨fn, hf⟩ : ∃ fn : Nat, mf = (fn : Int) := ⟨mf.toNat, by omega⟩
    subst hf
    refine (one_5 x g n i mv fn (by omega) c w hB hgl hnl hil).mono ?_
    rintro e w' ⟨r1, r2, r3⟩
    rw [hp] at r2
    refine ⟨fun e => absurd (show (5 : Int) = 3 from e.1) (by decide), fun _ => ⟨r1, ?_⟩, r3⟩
    have hput := fld_put (fn : Int) mv (h.ok κ).1
    refine rf_upd h r2 hS hR r3 hκ (fun o ho => by rw [updC_o (by omega), updC_o (by omega)]) hO (a' := ⟨a.V, a.L, updR a.D κ (putF (a.D κ) (fn : Int) mv)⟩) (fun κ' e => ⟨rfl, rfl, updR_o _ e⟩) (l' := lv κ) ?_ (RowO.tch r3 hrow.1 (fun j hj => (hrow.2 j hj).2)) (fun j hj => ⟨Or.inl (hrow.2 j hj).1, (hrow.2 j hj).2⟩) (by show OkF (updR a.D κ (putF (a.D κ) (fn : Int) mv) κ); rw [updR_s]; exact OkF.put mv (h.ok κ) f0 f8) (h.ll κ)
    show SpOK _ κ (a.V κ) (a.L κ) (updR a.D κ (putF (a.D κ) (fn : Int) mv) κ) (lv κ)
    rw [updR_s, putF_eq]
    refine ⟨by rw [updC_o (by omega), updC_o (by omega)]; exact hsp.h, by rw [updC_o (by omega), updC_o (by omega)]; exact hsp.v, by rw [updC_o (by omega), updC_o (by omega)]; exact hsp.l, fun f hf => ?_, fun f hf => ?_⟩
    · rw [hput]
      by_cases e : f = fn
      · subst e; rw [updC_o (by omega), updC_s, if_pos rfl]; rfl
      · rw [updC_o (by omega), updC_o (by omega), if_neg (by omega)]; exact hsp.i f hf
    · rw [hput]
      by_cases e : f = fn
      · subst e; rw [updC_s, if_pos rfl]; rfl
      · rw [updC_o (by omega), updC_o (by omega), if_neg (by omega)]; exact hsp.d f hf
  · obtain ⟨f0, f8⟩ := h6 rfl
    obtain ⟨fn, hf⟩ : ∃ fn : Nat, mf = (fn : Int) := ⟨mf.toNat, by omega⟩
    subst hf
    refine (one_6 x g n i mv fn (by omega) c w hB hgl hnl hil).mono ?_
    rintro e w' ⟨r1, r2, r3⟩
    rw [hp] at r2
    refine ⟨fun e => absurd (show (6 : Int) = 3 from e.1) (by decide), fun _ => ⟨r1, ?_⟩, r3⟩
    have hcut := fld_cut (fn : Int) (h.ok κ).1
    refine rf_upd h r2 hS hR r3 hκ (fun o ho => by rw [updC_o (by omega), updC_o (by omega)]) hO (a' := ⟨a.V, a.L, updR a.D κ (cutF (a.D κ) (fn : Int))⟩) (fun κ' e => ⟨rfl, rfl, updR_o _ e⟩) (l' := lv κ) ?_ (RowO.tch r3 hrow.1 (fun j hj => (hrow.2 j hj).2)) (fun j hj => ⟨Or.inl (hrow.2 j hj).1, (hrow.2 j hj).2⟩) (by show OkF (updR a.D κ (cutF (a.D κ) (fn : Int)) κ); rw [updR_s]; exact OkF.cut _ (h.ok κ)) (h.ll κ)
    show SpOK _ κ (a.V κ) (a.L κ) (updR a.D κ (cutF (a.D κ) (fn : Int)) κ) (lv κ)
    rw [updR_s, cutF_eq]
    refine ⟨by rw [updC_o (by omega), updC_o (by omega)]; exact hsp.h, by rw [updC_o (by omega), updC_o (by omega)]; exact hsp.v, by rw [updC_o (by omega), updC_o (by omega)]; exact hsp.l, fun f hf => ?_, fun f hf => ?_⟩
    · rw [hcut]
      by_cases e : f = fn
      · subst e; rw [updC_o (by omega), updC_s, if_pos rfl]; rfl
      · rw [updC_o (by omega), updC_o (by omega), if_neg (by omega)]; exact hsp.i f hf
    · rw [hcut]
      by_cases e : f = fn
      · subst e; rw [updC_s, if_pos rfl]; rfl
      · rw [updC_o (by omega), updC_o (by omega), if_neg (by omega)]; exact hsp.d f hf
end Go.Proofs.YtgglokfpafbmeaaGreat
