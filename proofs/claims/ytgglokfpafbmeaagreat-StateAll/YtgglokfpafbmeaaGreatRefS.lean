/- The document's state copied. -/
import Derived.Test.YtgglokfpafbmeaaGreatRefR
namespace Go.Proofs.YtgglokfpafbmeaaGreat
open Go.RowKit Go.MapKept Go.ChangeMaps

/-- One spot's list laid anew. -/
theorem copy_step {w wr : World} {O : Nat → Prop} {y : Nat} {a : Ab} (h : Rf wr O y a) (hO : ∀ k, wr.heap.size ≤ k → O k) (g n i : Nat) (hg : g < 4) (hn : n < 2) (hi : i < 24) (hb : Below w.heap.size w wr) (hy : w.heap.size ≤ y) :
    ∃ la ll lc l2 c2 W1, wr.cell? ⟨y, g * 912 + n * 456 + i * 19 + 2, none⟩ = some (.slice la ll lc) ∧ wr.frozen? ⟨y, g * 912 + n * 456 + i * 19 + 2, none⟩ = false ∧
      (∀ ty, (Builtin.append_ #[29, 29] ty #[.slice none 0 0, .slice la ll lc]).run Tryz.prog wr.drew = .ok (.slice l2 ll c2) W1) ∧ W1.cell? ⟨y, g * 912 + n * 456 + i * 19 + 2, none⟩ = some (.slice la ll lc) ∧ W1.frozen? ⟨y, g * 912 + n * 456 + i * 19 + 2, none⟩ = false ∧
      Hid (Rf (W1.setCell ⟨y, g * 912 + n * 456 + i * 19 + 2, none⟩ (.slice l2 ll c2)) O y a ∧ Below w.heap.size w (W1.setCell ⟨y, g * 912 + n * 456 + i * 19 + 2, none⟩ (.slice l2 ll c2)) ∧ ∀ k, (W1.setCell ⟨y, g * 912 + n * 456 + i * 19 + 2, none⟩ (.slice l2 ll c2)).heap.size ≤ k → O k) := by
  obtain ⟨c, lv, hB, hS, hR⟩ := h.dat
  have hκ : InK (kN g n i hg hn hi) := ⟨by show (0 : Int) ≤ (g : Int); omega, by show (g : Int) < 4; omega, by show (0 : Int) ≤ (n : Int); omega, by show (n : Int) < 2; omega, by show (0 : Int) ≤ (i : Int); omega, by show (i : Int) < 24; omega⟩
  have hp : g * 912 + n * 456 + i * 19 = offK (kN g n i hg hn hi) := by
    show _ = (g : Int).toNat * 912 + (n : Int).toNat * 456 + (i : Int).toNat * 19
    simp
  have hpl : g * 912 + n * 456 + i * 19 + 2 < 3648 := by omega
  rw [hp] at hpl ⊢
  generalize kN g n i hg hn hi = κ at *
  have hsp := hS κ hκ
  obtain ⟨hrow, hrb⟩ := hR κ hκ
  obtain ⟨la, lc, e1, hrd, _⟩ := RowI.slice hrow
  have hcell := hB.cell hpl
  rw [hsp.l, e1] at hcell
  have hD := (Below.refl wr.heap.size wr).drew
  obtain ⟨v1, W1, r1, o1, g1, p1⟩ := run_appI wr.drew (.slice none 0 0) [] (World.ownsRow_nil _ _ _ _) la (a.L κ).length lc (a.L κ) (hrd.later hD) (by have := h.ll κ; simp; omega)
  have b1 : Below wr.drew.heap.size wr.drew W1 := (Below.refl _ _).grown g1 (Nat.le_refl _) (fun k hk => by cases hk)
  have bb : Below wr.heap.size wr W1 := hD.trans (b1.mono hD.size)
  rw [List.nil_append] at o1
  obtain ⟨l2, c2, e2, _⟩ := RowI.slice o1
  subst e2
  have hB1 : Bx W1 y c := hB.at (bb.block _ hB.lt)
  obtain ⟨hB2, ht2⟩ := hB1.set hpl (.slice l2 (a.L κ).length c2)
  have hj : ∀ j, (Value.slice l2 (a.L κ).length c2).ownBlock = some j → wr.heap.size ≤ j := fun j hj => by
    rcases p1 with e | e
    · rw [e] at hj; cases hj
    · rw [e] at hj; cases hj; exact hD.size
  have ht : Tch (fun k => k = y) wr (W1.setCell ⟨y, offK κ + 2, none⟩ (.slice l2 (a.L κ).length c2)) := (Below.tch bb).trans ht2
  refine ⟨la, _, lc, l2, c2, W1, hcell, hB.free _, r1, same_cell bb hcell, hB1.free _, ?_, hb.trans (ht.below (fun k hk e => by omega) hb.size), fun k hk => hO k (Nat.le_trans ht.size hk)⟩
  refine rf_upd h hB2 hS hR ht hκ (fun o ho => by rw [updC_o (by omega)]) (fun k hk => hk) (a' := a) (fun κ' _ => ⟨rfl, rfl, rfl⟩) (l' := .slice l2 (a.L κ).length c2) ?_ (RowO.tch ht2 o1 (fun j h1 e => by have := hj j h1; have := hB.lt; omega)) (fun j h1 => ⟨hO j (hj j h1), fun e => by have := hj j h1; have := hB.lt; omega⟩) (h.ok κ) (h.ll κ)
  exact ⟨by rw [updC_o (by omega)]; exact hsp.h, by rw [updC_o (by omega)]; exact hsp.v, updC_s, fun f hf => by rw [updC_o (by omega)]; exact hsp.i f hf, fun f hf => by rw [updC_o (by omega)]; exact hsp.d f hf⟩

set_option maxRecDepth 100000 in
set_option maxHeartbeats 4000000 in
theorem refCopy {w : World} {O : Nat → Prop} {r : Nat} {a : Ab} (h : Rf w O r a) :
    Calls Tryz.prog 38 #[.pointer (some ⟨r, 0, none⟩)] w fun e w' => e = .returned (.pointer (some ⟨w.heap.size, 0, none⟩)) ∧ Rf w' (fun k => (O k ∧ k ≠ r) ∨ w.heap.size ≤ k) w.heap.size a ∧ Below w.heap.size w w' := by
  obtain ⟨c, lv, hB, hS, hR⟩ := h.dat
  obtain ⟨cur, hh, hsz, hcur⟩ := hB
  have hrg : w.rangeAt r 0 cur.toList := fun j v hv => by
    rw [Nat.zero_add]
    simp [World.cell?, hh]
    simpa using hv
  have hsi : (Tryz.prog.info? 109).map (·.size) = some cur.toList.length := by rw [infoSt]; simp [hsz]
  have hsi2 : (Tryz.prog.info? 109).map (·.size) = some cur.size := by rw [infoSt, hsz]
  have hone := bx_one hS hR hsz hcur
  have hZ := Bx.zero w
  obtain ⟨ht, hst, htt⟩ := hZ.store hsz hcur
  have hbz : Below w.heap.size w ((w.alloc (.cells stZ 109)).setCells w.heap.size 0 cur.toList) :=
    (below_alloc w _ w.heap.size (Nat.le_refl _)).trans (htt.below (fun k hk e => by omega) (by simp))
  have H0 : Hid (Rf ((w.alloc (.cells stZ 109)).setCells w.heap.size 0 cur.toList) (fun k => (O k ∧ k ≠ r) ∨ w.heap.size ≤ k) w.heap.size a ∧ Below w.heap.size w ((w.alloc (.cells stZ 109)).setCells w.heap.size 0 cur.toList) ∧ ∀ k, ((w.alloc (.cells stZ 109)).setCells w.heap.size 0 cur.toList).heap.size ≤ k → ((O k ∧ k ≠ r) ∨ w.heap.size ≤ k)) :=
    ⟨⟨Or.inr (Nat.le_refl _), ⟨c, lv, hst, hS, fun κ hκ => ⟨RowO.later (hR κ hκ).1 hbz, fun j hj => ⟨Or.inl ((hR κ hκ).2 j hj), fun e => by have := (World.ownsRow.lt (hR κ hκ).1 j hj).2; omega⟩⟩⟩, h.out, h.ok, h.ll⟩, hbz, fun k hk => Or.inr (Nat.le_trans hbz.size hk)⟩
  have Hrg := hide hrg
  have Hsi := hide (And.intro hsi hsi2)
  have Hht := hide ht
  have Hone := hide hone
  clear hrg hsi hsi2 hst htt hbz ht hone hZ hS hR hh hcur h
  go_enter Tryz.func38, Tryz.ntmps38
  go_wp2_with (first | (refine wpList_load_mid rfl 109 _ rfl r 0 rfl cur.toList _ Hrg.out Tryz.underlying109 rfl Hsi.out.1 ?_) | (refine wpList_allocSt rfl rfl ?_) | (refine wpList_store_mid rfl 109 _ _ rfl w.heap.size 0 cur rfl rfl Hht.out Hsi.out.2 Hone.out ?_))
  generalize (w.alloc (.cells stZ 109)).setCells w.heap.size 0 cur.toList = W0 at *
  clear Hrg Hsi Hht Hone
  go_loopg [4, 5, 6, 10] 4 (fun gm _ _ _ ix wr => ∃ t : Nat, gm = 4 - t ∧ t ≤ 4 ∧ ix = .int .i64 t ∧ Hid (Rf wr (fun k => (O k ∧ k ≠ r) ∨ w.heap.size ≤ k) w.heap.size a ∧ Below w.heap.size w wr ∧ ∀ k, wr.heap.size ≤ k → ((O k ∧ k ≠ r) ∨ w.heap.size ≤ k)))
  case atStart => exact ⟨0, rfl, by omega, rfl, H0⟩
  case round =>
    clear H0
    obtain ⟨g, rfl, hg, rfl, H1⟩ := hrel
    by_cases hgl : g < 4
    · have hdg : decide ((g : Int) < 4) = true := decide_eq_true (by omega)
      go_wp2_with fail
      try simp only [hdg]
      clear hdg
      go_loopg [5, 6, 13] 2 (fun gm _ _ ix wr => ∃ t : Nat, gm = 2 - t ∧ t ≤ 2 ∧ ix = .int .i64 t ∧ Hid (Rf wr (fun k => (O k ∧ k ≠ r) ∨ w.heap.size ≤ k) w.heap.size a ∧ Below w.heap.size w wr ∧ ∀ k, wr.heap.size ≤ k → ((O k ∧ k ≠ r) ∨ w.heap.size ≤ k)))
      case atStart => exact ⟨0, rfl, by omega, rfl, H1⟩
      case round =>
        clear H1
        obtain ⟨n, rfl, hn, rfl, H1⟩ := hrel
        by_cases hnl : n < 2
        · have hdn : decide ((n : Int) < 2) = true := decide_eq_true (by omega)
          go_wp2_with fail
          try simp only [hdn]
          clear hdn
          go_loopg [6, 16] 24 (fun gm _ ix wr => ∃ t : Nat, gm = 24 - t ∧ t ≤ 24 ∧ ix = .int .i64 t ∧ Hid (Rf wr (fun k => (O k ∧ k ≠ r) ∨ w.heap.size ≤ k) w.heap.size a ∧ Below w.heap.size w wr ∧ ∀ k, wr.heap.size ≤ k → ((O k ∧ k ≠ r) ∨ w.heap.size ≤ k)))
          case atStart => exact ⟨0, rfl, by omega, rfl, H1⟩
          case round =>
            clear H1
            obtain ⟨i, rfl, hi, rfl, H1⟩ := hrel
            by_cases hil : i < 24
            · obtain ⟨la, ll, lc, l2, c2, W1, hc1, hf1, hr1, hc2, hf2, HN⟩ := copy_step H1.out.1 H1.out.2.2 g n i hgl hnl hil H1.out.2.1 (Nat.le_refl _)
              have HRN := hide hr1
              have g0 : (0 : Int) ≤ (g : Int) := by omega
              have g1 : (g : Int) < 4 := by omega
              have n0 : (0 : Int) ≤ (n : Int) := by omega
              have n1 : (n : Int) < 2 := by omega
              have i0 : (0 : Int) ≤ (i : Int) := by omega
              have i1 : (i : Int) < 24 := by omega
              clear hr1 H1
              go_wp2
              go_region_law (refine step_ran_at (wr.drew) rfl _ _ _ _ rfl (.slice none 0 0) (.slice la ll lc) (.slice l2 ll c2) ?_ ?_ ?_ HRN.out ?_; (with_reducible rfl); rfl; rfl)
              all_goals
                clear HRN hc1 hf1 hc2 hf2
                go_wp2
                go_roundg (24 - (i + 1))
                case measure => omega
                case rel => exact ⟨i + 1, rfl, by omega, by simp, HN⟩
            · have hix : ¬ ((i : Nat) : Int) < 24 := by omega
              go_wp2
              go_roundg (2 - (n + 1))
              case measure => omega
              case rel => exact ⟨n + 1, rfl, by omega, by simp, H1⟩
        · have hnx : ¬ ((n : Nat) : Int) < 2 := by omega
          go_wp2
          go_roundg (4 - (g + 1))
          case measure => omega
          case rel => exact ⟨g + 1, rfl, by omega, by simp, H1⟩
    · have hgx : ¬ ((g : Nat) : Int) < 4 := by omega
      have HF := hide (And.intro H1.out.1 H1.out.2.1)
      clear H1
      go_wp2
      go_ret
      exact ⟨rfl, HF.out⟩
end Go.Proofs.YtgglokfpafbmeaaGreat
