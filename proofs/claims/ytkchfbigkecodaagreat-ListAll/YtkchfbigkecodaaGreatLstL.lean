/- A list of lists as a law holds it. -/
import Derived.Test.YtkchfbigkecodaaGreatLst4
import Derived.Test.YtkchfbigkecodaaGreatStat
namespace Go.Proofs.YtkchfbigkecodaaGreat
open Go.RowKit Go.MapKept Go.ChangeMaps

/-- Lists at g; the blocks E are the law's own. -/
structure Lh (w W : World) (g : Nat) (E : Nat → Prop) (f : K3 → List Int) (N : Nat) : Prop where
  l : LiS W (fun k => g ≤ k ∧ ¬ E k) g f N
  lt : ∀ k, E k → k < W.heap.size
  gw : w.heap.size ≤ g
  b : Below w.heap.size w W
section
variable {w W : World} {g N : Nat} {E : Nat → Prop} {f : K3 → List Int}
theorem LiS.here {W : World} {O : Nat → Prop} {g N : Nat} {f : K3 → List Int} (h : LiS W O g f N) : g < W.heap.size := by
  obtain ⟨mo, l, c, h⟩ := h
  exact lt_of_heap h.obj
theorem Lh.later {W' : World} (h : Lh w W g E f N) (hb : Below W.heap.size W W') : Lh w W' g E f N :=
  ⟨h.l.later hb, fun k hk => Nat.lt_of_lt_of_le (h.lt k hk) hb.size, h.gw, h.b.trans (hb.mono h.b.size)⟩
theorem Lh.out (h : Lh w W g E f N) : ∀ k, W.heap.size ≤ k → g ≤ k ∧ ¬ E k := fun k hk => ⟨by have := h.l.here; omega, fun e => by have := h.lt k e; omega⟩
/-- One more block is the law's own. -/
theorem Lh.box (h : Lh w W g E f N) (o : Obj) : Lh w (W.alloc o) g (fun k => E k ∨ k = W.heap.size) f N := by
  have hb := below_alloc W o W.heap.size (Nat.le_refl _)
  have h1 := h.later hb
  have hl : LiS W (fun k => g ≤ k ∧ ¬ (E k ∨ k = W.heap.size)) g f N := h.l.sub (fun k hk hl => ⟨hk.1, fun e => by
    rcases e with e | e
    · exact hk.2 e
    · omega⟩)
  refine ⟨hl.later hb, ?_, h.gw, h1.b⟩
  rintro k (e | e)
  · exact h1.lt k e
  · subst e; simp
theorem Lh.drop {E' : Nat → Prop} (h : Lh w W g E f N) (hE : ∀ j, E' j → E j) : Lh w W g E' f N :=
  ⟨h.l.sub (fun k hk _ => ⟨hk.1, fun e => hk.2 (hE k e)⟩), fun j hj => h.lt j (hE j hj), h.gw, h.b⟩
/-- The law writes into what is its own. -/
theorem Lh.turn {W' : World} (h : Lh w W g E f N) (ht : Tch E W W') (hE : ∀ k, E k → w.heap.size ≤ k) : Lh w W' g E f N :=
  ⟨h.l.tch ht (fun k hk _ e => hk.2 e), fun k hk => Nat.lt_of_lt_of_le (h.lt k hk) ht.size, h.gw, h.b.trans (ht.below (fun k hk e => by have := hE k e; omega) h.b.size)⟩
theorem Lh.push (h : Lh w W g E f N) (k : K3) (ao : Option Addr) (m cp : Nat) (z : List Int) (hr : Rd W ao m cp z) (hf : (f k).length ≤ 100) :
    Calls Tryz.prog 23 #[.pointer (some ⟨g, 0, none⟩), k3E k, .slice ao m cp] W fun e w' => e = .returned (.int .i64 (if (f k).length + m ≤ 100 then 0 else 4)) ∧ Lh w w' g E (if (f k).length + m ≤ 100 then updR f k (f k ++ z) else f) (N + 1) ∧ Tch (fun k => g ≤ k ∧ ¬ E k) W w' := by
  refine (listPush _ g N f k ao m cp z W h.l h.out hr hf).mono ?_
  rintro e w' ⟨r1, r2, r3⟩
  exact ⟨r1, ⟨r2, fun k hk => Nat.lt_of_lt_of_le (h.lt k hk) r3.size, h.gw, h.b.trans (r3.below (fun k hk e => by have := h.gw; omega) h.b.size)⟩, r3⟩
theorem Lh.clear (h : Lh w W g E f N) (k : K3) :
    Calls Tryz.prog 24 #[.pointer (some ⟨g, 0, none⟩), k3E k] W fun e w' => e = .returned (.int .i64 (f k).length) ∧ Lh w w' g E (updR f k []) N ∧ Tch (fun k => g ≤ k ∧ ¬ E k) W w' := by
  have hs := h.l.sub (O' := fun j => g ≤ j ∧ ¬ E j) (fun j hj _ => hj)
  refine (listClear (fun j => g ≤ j ∧ ¬ E j) g N f k W hs).mono ?_
  rintro e w' ⟨r1, r2, r3⟩
  exact ⟨r1, ⟨r2, fun k hk => Nat.lt_of_lt_of_le (h.lt k hk) r3.size, h.gw, h.b.trans (r3.below (fun k hk e => by have := h.gw; omega) h.b.size)⟩, r3⟩
theorem Lh.list (h : Lh w W g E f N) (k : K3) (hf : (f k).length ≤ 100) :
    Calls Tryz.prog 26 #[.pointer (some ⟨g, 0, none⟩), k3E k] W fun e w' => ∃ p c, e = .returned (.slice p (f k).length c) ∧ OwnI w' W.heap.size (.slice p (f k).length c) (f k) ∧ Below W.heap.size W w' := by
  refine (listList _ g N f k W h.l hf).mono ?_
  rintro e w' ⟨v, r1, r2, r3⟩
  obtain ⟨p, c, rfl, _⟩ := RowI.slice r2.row
  exact ⟨p, c, r1, r2, r3⟩
theorem Lh.keys (h : Lh w W g E f N) (hN : N ≤ 1000) :
    Calls Tryz.prog 25 #[.pointer (some ⟨g, 0, none⟩)] W fun e w' => ∃ p c ks, e = .returned (.slice p ks.length c) ∧ (∀ k, k ∈ ks ↔ f k ≠ []) ∧ RiseK ks ∧ OwnK w' W.heap.size (.slice p ks.length c) ks ∧ Below W.heap.size W w' := by
  refine (listKeys _ g N f W h.l hN).mono ?_
  rintro e w' ⟨v, ks, r1, r2, r3, r4, r5⟩
  obtain ⟨p, c, rfl⟩ := r4.shape
  exact ⟨p, c, ks, r1, r2, r3, r4, r5⟩
end
theorem Lh.new (w w1 : World) (hb : Below w.heap.size w w1) : Lh w (w1.alloc (rmObj 92 none)) w1.heap.size (fun _ => False) (fun _ => []) 0 :=
  ⟨RmS.new w1 _ ⟨Nat.le_refl _, fun e => e⟩, fun _ e => e.elim, hb.size, hb.trans (below_alloc _ _ _ hb.size)⟩
end Go.Proofs.YtkchfbigkecodaaGreat
