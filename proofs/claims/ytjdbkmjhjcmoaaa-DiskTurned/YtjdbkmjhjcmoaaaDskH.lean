/- Crash of a disk of whatever many files. -/
import Derived.Test.YtjdbkmjhjcmoaaaDskG
import Derived.Deep.RegionHeld3
namespace Go.Proofs.Ytjdbkmjhjcmoaaa
open Go.RowKit Go.MapKept Go.ChangeMaps

/-- How many bytes stay. -/
def keptN (kept : Int) (n : Nat) : Nat := (min (max kept 0) (n : Int)).toNat

/-- What a crash leaves. -/
def CrashOf (C0 : Files) (bad : Int) (C : Files) : Prop := (bad < 0 ∧ C = C0) ∨ (0 ≤ bad ∧ ∃ ns, NamesOf C0 ns ∧ C = turnF C0 ns bad.toNat)

theorem NewF.redo {w w1 : World} {m : Nat} {G : Files} (h : NewF w w1 m G) (cs : List (ByteArray × Nat)) (sv : Value) (a : Option Addr) (n cap : Nat) (lo : List Int) (lb : Nat) (hS : OwnC w1 sv cs) (hb : Bs w1 a n cap lo) (hlb : ∀ ad, a = some ad → ad.block = lb) (hlw : a ≠ none → lb < w.heap.size) (hc : capF G 1000) (hn : n ≤ 2000) (hcs : cs.length ≤ 1000) (hcn : ∀ p ∈ cs, p.2 ≤ 2000) :
    Calls Try.prog 45 #[.map (some m), sv, .slice a n cap] w1 fun e w2 => e = .returned (.tuple #[]) ∧ NewF w w2 m (redoF G cs lo) ∧ Tch (fun k => w.heap.size ≤ k) w1 w2 := by
  obtain ⟨h1, h2, l, c, h3, h4⟩ := h
  have fin : ∀ w2, Grew w1 w2 m l (redoF G cs lo) → NewF w w2 m (redoF G cs lo) ∧ Tch (fun k => w.heap.size ≤ k) w1 w2 := by
    rintro w2 ⟨l', c', k1, k2, k3⟩
    have hT : Tch (fun k => w.heap.size ≤ k) w1 w2 := k2.mono (fun k _ e => e.elim (fun e => by rw [e]; exact h2) (h4 k))
    refine ⟨⟨h1.trans (hT.below (fun k hk e => by omega) h1.size), h2, l', c', k1, fun k hk => ?_⟩, hT⟩
    rcases k3 k hk with e | e
    · exact h4 k e
    · have := h1.size; omega
  cases a with
  | none =>
    refine (redo_any m l c G cs sv none n cap lo 1000 m w1 h3 hS hb (fun ad e => by cases e) h3.ne h3.mp.lt hc (by omega) hn hcs hcn).mono ?_
    rintro e w2 ⟨rfl, hg⟩
    exact ⟨rfl, fin w2 hg⟩
  | some ad =>
    have hl := hlw (by simp)
    refine (redo_any m l c G cs sv (some ad) n cap lo 1000 lb w1 h3 hS hb (fun ad e _ => hlb ad e) (fun e => by have := h4 lb e; omega) (by have := h1.size; omega) hc (by omega) hn hcs hcn).mono ?_
    rintro e w2 ⟨rfl, hg⟩
    exact ⟨rfl, fin w2 hg⟩

theorem NewF.turn {w w2 : World} {m : Nat} {C0 : Files} (h : NewF w w2 m C0) (bad : Int) (hN : namF C0 1000) (hc : capF C0 60000) (hb : bad ≤ 9223372036854775807) :
    Calls Try.prog 49 #[.map (some m), .int .i64 bad] w2 fun e w3 => e = .returned (.tuple #[]) ∧ ∃ C, CrashOf C0 bad C ∧ NewF w w3 m C ∧ capF C 60000 := by
  by_cases h0 : bad < 0
  · refine (turn_below (some m) bad h0 w2).mono ?_
    rintro e w3 ⟨rfl, rfl⟩
    exact ⟨rfl, C0, Or.inl ⟨h0, rfl⟩, h, hc⟩
  · obtain ⟨k, rfl⟩ := Int.eq_ofNat_of_zero_le (a := bad) (by omega)
    obtain ⟨h1, h2, l, c, h3, h4⟩ := h
    refine (turn_any m l c 1000 C0 k w2 h3 hN (by omega) hc hb).mono ?_
    rintro e w3 ⟨rfl, ns, k1, k2, k3⟩
    refine ⟨rfl, _, Or.inr ⟨by omega, ns, k1, rfl⟩, ⟨h1.trans (k3.below (fun k hk e => by have := h4 k e; omega) h1.size), h2, l, c, ?_, h4⟩, hc.turn ns _⟩
    simpa using k2

theorem NewF.disk {w w3 w4 : World} {m m2 : Nat} {C : Files} (h : NewF w w3 m C) (k : NewF w3 w4 m2 C) :
    Dsk (w4.alloc (dObj (some m) (some m2) (.slice none 0 0) (.slice none 0 0))) (fun k => w.heap.size ≤ k) w4.heap.size C C [] [] ∧ Below w.heap.size w (w4.alloc (dObj (some m) (some m2) (.slice none 0 0) (.slice none 0 0))) ∧ w.heap.size ≤ w4.heap.size := by
  obtain ⟨h1, h2, l, c, h3, h4⟩ := h
  obtain ⟨k1, k2, l', c', k3, k4⟩ := k
  have hs := h1.size
  have ks := k1.size
  have hA := below_alloc w4 (dObj (some m) (some m2) (.slice none 0 0) (.slice none 0 0)) w4.heap.size (Nat.le_refl _)
  have hlt := h3.lt
  refine ⟨⟨m, m2, l, c, l', c', _, _, ⟨heap_alloc_new w4 _, (h3.later k1).later hA, k3.later hA, OwnC.nil _, World.ownsInts_nil _ _ _ _, by omega, fun k hk hk' => ?_, fun k hk => (by cases hk), ⟨by omega, h2, by omega, h4, fun k hk => by have := k4 k hk; omega, fun k hk => (by cases hk), fun k hk => (by cases hk)⟩⟩⟩, (h1.trans (k1.mono hs)).trans (hA.mono (by omega)), by omega⟩
  have := hlt.2 k hk
  have := k4 k hk'
  omega

set_option maxRecDepth 100000 in
set_option maxHeartbeats 1600000 in
theorem crash_gen (g : Nat) (nm sm : Option Nat) (G : Files) (cs : List (ByteArray × Nat)) (lo : List Int) (sa a : Option Addr) (sn sc n cap : Nat) (lb : Nat) (kept bad : Int) (w : World) (h : w.heap[g]? = some (dObj nm sm (.slice sa sn sc) (.slice a n cap)))
    (hcopy : Calls Try.prog 48 #[.map sm] w fun e w' => ∃ m, e = .returned (.map (some m)) ∧ NewF w w' m G)
    (hS : OwnC w (.slice sa sn sc) cs) (hb : Bs w a n cap lo) (hlb : ∀ ad, a = some ad → ad.block = lb) (hlw : a ≠ none → lb < w.heap.size) (hc : capF G 1000) (hn : n ≤ 2000) (hcs : cs.length ≤ 900) (hcn : ∀ p ∈ cs, p.2 ≤ 2000) (hcm : ∀ p ∈ cs, p.1.size ≤ 40) (hN : namF G 100) (hk : (Lit.int .i64 kept).wf = true) (hbad : (Lit.int .i64 bad).wf = true) (k : Nat) (hkk : k = keptN kept n) :
    Calls Try.prog 23 #[.pointer (some ⟨g, 0, none⟩), .int .i64 kept, .int .i64 bad] w fun e w' => ∃ g' C, e = .returned (.pointer (some ⟨g', 0, none⟩)) ∧ CrashOf (redoF G cs (lo.take k)) bad C ∧ Dsk w' (fun k => w.heap.size ≤ k) g' C C [] [] ∧ Below w.heap.size w w' ∧ w.heap.size ≤ g' := by
  obtain ⟨c0, c1, c2, c3⟩ := d_cells h
  have hwk := wf_i64 hk
  have hwb := wf_i64 hbad
  have hncap := hb.2.1
  have hcap := hb.2.2.1
  have hkn : k ≤ n := by rw [hkk, keptN]; omega
  have hlen := hb.1
  have hC0 : capF (redoF G cs (lo.take k)) 60000 := (hc.redo cs (lo.take k)).mono (by rw [List.length_take]; omega)
  have hN0 : namF (redoF G cs (lo.take k)) 1000 := (hN.redo cs (lo.take k) hcm).mono (by omega)
  have HCP := hide hcopy
  have HG := hide h
  have hglt := lt_of_heap h
  have su := fun W => run_uptoA a n cap k (k : Int) rfl (by omega) W
  have HR : Hid (∀ m w1, NewF w w1 m G → Calls Try.prog 45 #[.map (some m), .slice sa sn sc, .slice a k cap] w1.drew fun e w2 => e = .returned (.tuple #[]) ∧ w2.cell? ⟨g, 2, none⟩ = some (.slice sa sn sc) ∧ w2.cell? ⟨g, 3, none⟩ = some (.slice a n cap) ∧ Hid (NewF w w2 m (redoF G cs (lo.take k)))) := by
    intro m w1 hw1
    have hD : Below w1.heap.size w1 w1.drew := (Below.refl _ _).drew
    have hw1d : NewF w w1.drew m G := by
      obtain ⟨h1, h2, l, c, h3, h4⟩ := hw1
      exact ⟨h1.drew, h2, l, c, h3.later hD, h4⟩
    have hbw : Below w.heap.size w w1.drew := hw1d.1
    have hTw : Tch (fun k => w.heap.size ≤ k) w w1.drew := ⟨hbw.os, hbw.tape, hbw.output, hbw.size, fun k hk _ => hbw.block k hk⟩
    refine (hw1d.redo cs _ a k cap (lo.take k) lb (hS.tch hTw (fun k hk e => by have := (World.ownsRow.lt hS k hk).2; omega)) ((hb.later hbw (Nat.le_refl _)).take k hkn) hlb hlw hc (by omega) (by omega) hcn).mono ?_
    rintro e w2 ⟨rfl, j1, j2⟩
    have hg2 := (j1.1.block g hglt).trans h
    have q := d_cells hg2
    exact ⟨rfl, q.2.2.1, q.2.2.2, j1⟩
  have HT : Hid (∀ m w2, NewF w w2 m (redoF G cs (lo.take k)) → Calls Try.prog 49 #[.map (some m), .int .i64 bad] w2 fun e w3 => e = .returned (.tuple #[]) ∧ ∃ C, Hid (CrashOf (redoF G cs (lo.take k)) bad C) ∧ Hid (NewF w w3 m C ∧ capF C 60000)) := by
    intro m w2 hw2
    refine (hw2.turn bad hN0 hC0 hwb.2).mono ?_
    rintro e w3 ⟨rfl, C, j1, j2, j3⟩
    exact ⟨rfl, C, j1, j2, j3⟩
  have hmm : (max kept 0 = kept ∧ 0 ≤ kept ∧ decide (kept < 0) = false) ∨ (max kept 0 = 0 ∧ kept < 0 ∧ decide (kept < 0) = true) := by
    by_cases h0 : kept < 0
    · right; exact ⟨by omega, h0, by simp [h0]⟩
    · left; exact ⟨by omega, by omega, by simp; omega⟩
  have hmn : min (max kept 0) (n : Int) = (k : Int) := by rw [hkk, keptN]; omega
  clear h hcopy hS hb hlb hlw hc hcs hcn hcm hN hC0 hN0 hlen hkk hwb
  go_enter Try.func23, Try.ntmps23
  go_wp2_with fail
  refine HCP.out.mono ?_
  rintro e w1 ⟨m, rfl, hw1⟩
  have hg1 := (hw1.1.block g hglt).trans HG.out
  clear c0 c1 c2 c3
  obtain ⟨c0, c1, c2, c3⟩ := d_cells hg1
  have d2 : w1.drew.cell? ⟨g, 2, none⟩ = some (.slice sa sn sc) := c2
  have d3 : w1.drew.cell? ⟨g, 3, none⟩ = some (.slice a n cap) := c3
  have HR1 := hide (HR.out m w1 hw1)
  clear hg1 hw1 HR HCP HG
  go_wp2
  go_region_held3 (fun w' => w'.cell? ⟨g, 2, none⟩ = some (.slice sa sn sc) ∧ w'.cell? ⟨g, 3, none⟩ = some (.slice a n cap)) (first | exact ⟨d2, d3⟩ | exact ⟨e2, e3⟩) ((go_at_call 45; refine HR1.out.mono ?_; rintro e W1 ⟨rfl, e2, e3, HJ⟩))
  clear e2 e3 d2 d3 c0 c1 c2 c3 su HR1
  go_wp2_with fail
  refine (HT.out m W1 HJ.out).mono ?_
  rintro e w2 ⟨rfl, C, HC1, HC2⟩
  have HCP2 : Hid (Calls Try.prog 48 #[.map (some m)] w2 fun e w' => ∃ m2, e = .returned (.map (some m2)) ∧ NewF w2 w' m2 C) := by
    obtain ⟨⟨h1, h2, l, c, h3, h4⟩, h5⟩ := HC2.out
    exact filesCopy_some m l c C w2 h3 h5
  clear HJ HT
  go_wp2_with fail
  refine HCP2.out.mono ?_
  rintro e w3 ⟨m2, rfl, hw3⟩
  have HF := hide (HC2.out.1.disk hw3)
  clear HC2 HCP2 hw3
  go_wp2
  go_ret
  exact ⟨_, C, rfl, HC1.out, HF.out.1, HF.out.2.1, HF.out.2.2⟩
end Go.Proofs.Ytjdbkmjhjcmoaaa
