/- Two states side by side: rows of changes that the law made itself; blocks of the law's own that turn. -/
import Derived.Test.YtiofkcmdgijjoaaGreatRefU
import Derived.Test.YtiofkcmdgijjoaaGreatKopR
namespace Go.Proofs.YtiofkcmdgijjoaaGreat
open Go.RowKit Go.MapKept Go.ChangeMaps
section
variable {F : Nat → Prop} {w0 W W' : World} {s gv gl gd r N : Nat} {a b : Ab}
/-- Blocks of the law's own turn. -/
theorem Tw.turnF {S : Nat → Prop} (h : Tw F w0 W s gv gl gd r a b N) (ht : Tch S W W') (hS : ∀ k, k < W.heap.size → S k → F k ∧ w0.heap.size ≤ k) : Tw F w0 W' s gv gl gd r a b N := by
  obtain ⟨O1, O2, h1, h2, h3, h4, h5, h6⟩ := h.own
  have hs := ht.size
  have hz := h.bel.size
  exact ⟨⟨O1, O2, h1.tch ht (fun k k1 k2 k3 => (h6 k (hS k k2 k3).1).2.1 k1), h2.tch ht (fun k k1 k2 k3 => (h6 k (hS k k2 k3).1).2.2 k1), fun k _ k1 => h3 k (h4 k k1).1 k1, fun k k1 => ⟨by have := (h4 k k1).1; omega, (h4 k k1).2⟩, fun k k1 => ⟨by have := (h5 k k1).1; omega, (h5 k k1).2⟩, fun k k1 => ⟨by have := (h6 k k1).1; omega, (h6 k k1).2⟩⟩, h.bel.trans (ht.below (fun k hk k1 => by have := (hS k (by omega) k1).2; omega) hz)⟩
/-- The law lets go of blocks. -/
theorem Tw.drop {F' : Nat → Prop} (h : Tw F w0 W s gv gl gd r a b N) (hF : ∀ k, F' k → F k) : Tw F' w0 W s gv gl gd r a b N := by
  obtain ⟨O1, O2, h1, h2, h3, h4, h5, h6⟩ := h.own
  exact ⟨⟨O1, O2, h1, h2, h3, h4, h5, fun k k1 => h6 k (hF k k1)⟩, h.bel⟩
/-- The law takes blocks that were made since. -/
theorem Tw.add {F' : Nat → Prop} (h : Tw F w0 W s gv gl gd r a b N) (hb : Below W.heap.size W W') (hF : ∀ k, F' k → F k ∨ (W.heap.size ≤ k ∧ k < W'.heap.size)) : Tw F' w0 W' s gv gl gd r a b N := by
  obtain ⟨O1, O2, h1, h2, h3, h4, h5, h6⟩ := h.own
  have := hb.size
  refine ⟨⟨O1, O2, h1.later hb, h2.later hb, fun k _ k1 => h3 k (h4 k k1).1 k1, fun k k1 => ⟨by have := (h4 k k1).1; omega, (h4 k k1).2⟩, fun k k1 => ⟨by have := (h5 k k1).1; omega, (h5 k k1).2⟩, fun k k1 => ?_⟩, h.bel.trans (hb.mono h.bel.size)⟩
  rcases hF k k1 with e | e
  · exact ⟨by have := (h6 k e).1; omega, (h6 k e).2⟩
  · exact ⟨e.2, fun k2 => by have := (h4 k k2).1; omega, fun k2 => by have := (h5 k k2).1; omega⟩
/-- The document's state turns. -/
theorem Tw.turn2 (h : Tw F w0 W s gv gl gd r a b N) : ∃ O : Nat → Prop, Rf W O r b ∧ (∀ k, W.heap.size ≤ k → O k) ∧ ∀ w' b', Rf w' O r b' → Tch (fun k => k = r) W w' → Tw F w0 w' s gv gl gd r a b' N ∧ ∀ k, F k → w'.heap[k]? = W.heap[k]? := by
  obtain ⟨O1, O2, h1, h2, h3, h4, h5, h6⟩ := h.own
  have hz := h.bel.size
  have hr := h2.own
  refine ⟨fun k => O2 k ∨ W.heap.size ≤ k, h2.wide (fun k hk _ => Or.inl hk), fun k hk => Or.inr hk, fun w' b' r2 r3 => ?_⟩
  have hs := r3.size
  refine ⟨⟨⟨O1, fun k => (O2 k ∨ W.heap.size ≤ k) ∧ k < w'.heap.size, h1.tch r3 (fun k k1 k2 k3 => h3 k k2 k1 (by rw [k3]; exact hr)), r2.wide (fun k hk hl => ⟨hk, hl⟩), fun k _ k1 k2 => ?_, fun k k1 => ⟨by have := (h4 k k1).1; omega, (h4 k k1).2⟩, fun k k1 => ⟨k1.2, ?_⟩, fun k k1 => ⟨by have := (h6 k k1).1; omega, (h6 k k1).2.1, fun k2 => ?_⟩⟩, h.bel.trans (r3.below (fun k hk k1 => ?_) hz)⟩, fun k k1 => r3.block k (h6 k k1).1 (fun k2 => ?_)⟩
  · rcases k2.1 with k3 | k3
    · exact h3 k (h4 k k1).1 k1 k3
    · have := (h4 k k1).1; omega
  · rcases k1.1 with k3 | k3
    · exact (h5 k k3).2
    · omega
  · rcases k2.1 with k3 | k3
    · exact (h6 k k1).2.2 k3
    · have := (h6 k k1).1; omega
  · subst k1
    have := (h5 k hr).2; omega
  · subst k2
    exact (h6 k k1).2.2 hr
/-- The document's Do of changes that lie wherever. -/
theorem Tw.do2w (h : Tw F w0 W s gv gl gd r a b N) (pa : Option Addr) (n cc : Nat) (xs : List Mq) (hm : Ms W pa n (xs.map Mq.m)) (hn : n ≤ 100000) :
    Calls Tryz.prog 19 #[.pointer (some ⟨r, 0, none⟩), .slice pa n cc] W fun e w' => e = .returned (.int .i64 (dErr b xs)) ∧ Tw F w0 w' s gv gl gd r a (dQ b xs) N ∧ ∀ k, F k → w'.heap[k]? = W.heap[k]? := by
  obtain ⟨O, h1, h2, h3⟩ := h.turn2
  refine (refDo h1 h2 pa n cc xs hm hn).mono ?_
  rintro e w' ⟨r1, r2, r3⟩
  exact ⟨r1, h3 w' _ r2 r3⟩
end
end Go.Proofs.YtiofkcmdgijjoaaGreat
