/- What disk.Append does, as begun uses it. -/
import Derived.Test.YtdogecaonlmalaaGreatDisk1
namespace Go.Proofs.YtdogecaonlmalaaGreat
open Go.RowKit

theorem Bs.keepD {w : World} {g n cap : Nat} {nm sm : Option Nat} {a : Option Addr} {l : List Int} (h : Bs w a n cap l) (hg : w.heap[g]? = some (dObj nm sm (.slice none 0 0) (.slice none 0 0))) : ∀ W, w.grownBy W (some g) → Bs W a n cap l := by
  intro W hW
  obtain ⟨h1, h2, h3, h4, h5, h6⟩ := h
  refine ⟨h1, h2, h3, h4, fun hp => ?_, h6⟩
  obtain ⟨b, o, rfl, hc⟩ := h5 hp
  refine ⟨b, o, rfl, fun i hi => hW.cell (hc i hi) ?_⟩
  rintro e
  have e' : b = g := by simpa using e
  subst e'
  have := hc i hi
  generalize o + i = k at this
  rcases k with _ | _ | _ | _ | k <;> simp [World.cell?, hg, dObj] at this

theorem S0.drew {B g m1 m2 : Nat} {lv : Value} {l : List Int} {w : World} (h : S0 B g m1 m2 lv l w) : S0 B g m1 m2 lv l w.drew :=
  ⟨(Go.Proofs.YtdogecaonlmalaaGreat.heap_drew _ _).trans h.1, (Go.Proofs.YtdogecaonlmalaaGreat.heap_drew _ _).trans h.2.1, (Go.Proofs.YtdogecaonlmalaaGreat.heap_drew _ _).trans h.2.2.1, owns_later h.2.2.2 (Below.refl _ _).drew⟩

set_option maxRecDepth 100000 in
set_option maxHeartbeats 800000 in
theorem append_first (B g : Nat) (s : ByteArray) (a : Option Addr) (n cap : Nat) (l : List Int) (w : World) (hg : w.heap[g]? = some (dObj none none (.slice none 0 0) (.slice none 0 0))) (hB : B ≤ w.heap.size) (h0 : 1 ≤ s.size) (hs : s.size ≤ 40) (h : Bs w a n cap l) (hn : n ≤ 1000) :
    Calls Tryz.prog 63 #[.pointer (some ⟨g, 0, none⟩), .string s, .slice a n cap] w fun e w' => e = .returned (.int .i64 0) ∧ S1 B g s l w' ∧ w.grownBy w' (some g) := by
  obtain ⟨c0, c1, c2, c3⟩ := d_cells hg
  have lk := fun W => look_nothing und101 s false W
  simp only [if_false, Bool.false_eq_true] at lk
  have d1 : decide ((s.size : Int) ≤ 40) = true := by simp; omega
  have d2 : decide (1 ≤ (s.size : Int)) = true := by simp; omega
  have hlt := lt_of_heap hg
  have HK := hide (h.keepD hg)
  have HL := hide h.1
  have HM := hide (makeMaps_first g _ _ w hg)
  clear h hg
  go_enter Tryz.func63, Tryz.ntmps63
  go_wp2_with (first | (go_at_call 98; go_in) | fail)
  refine HM.out.mono ?_
  rintro e w1 ⟨m1, m2, rfl, k1, k2, k3, k4, k5, k6, k7⟩
  clear c0 c1 c2 c3 HM
  obtain ⟨c0, c1, c2, c3⟩ := d_cells k1
  have hbs1 := HK.out w1 k7
  have hB1 : B ≤ w1.heap.size := Nat.le_trans hB k7.size
  have HK1 := hide k1
  have HK5 := hide k5
  have HK6 := hide k6
  clear k1 k5 k6
  go_wp2_with (at_builtin; refine wpList_app rfl (.tmp 29) (.tmp 30) rfl B _ [] rfl (World.ownsInts_nil _ _ _ _) a n cap l rfl hbs1 (by simp; omega) hB1 ?_)
  intro lv w2 hown2 hg2 _
  have hg2' : w1.grownBy w2 none := hg2
  have hg2'' : w1.grownBy w2 (some g) := ⟨hg2'.os, hg2'.tape, hg2'.output, hg2'.size, fun k hk _ => hg2'.block k hk (by simp)⟩
  have j1 := (hg2'.block g (lt_of_heap HK1.out) (by simp)).trans HK1.out
  have j5 := (hg2'.block m1 (lt_of_heap HK5.out) (by simp)).trans HK5.out
  have j6 := (hg2'.block m2 (lt_of_heap HK6.out) (by simp)).trans HK6.out
  obtain ⟨la, lc, rfl, _⟩ := Bs.of_owns hown2
  have hS : Hid (S0 B g m1 m2 (.slice la l.length lc) l (w2.setCell ⟨g, 3, none⟩ (.slice la l.length lc))) := by
    have ho : w2.ownsInts B 5 .u8 (.slice la l.length lc) l := by simpa using hown2
    refine ⟨(d_set j1 none _).2.2.2, ?_, ?_, ?_⟩
    · rw [Below.heap_setCell _ _ _ _ (by simp; omega)]; exact j5
    · rw [Below.heap_setCell _ _ _ _ (by simp; omega)]; exact j6
    · exact (Tch.of (grown_setCell _ g 3 _)).owns ho (fun k hk e => kind_owns ho j1 (dObj_kind _ _ _ _) (by rw [hk, e]))
  have hT : Hid (w.grownBy (w2.setCell ⟨g, 3, none⟩ (.slice la l.length lc)) (some g)) := grown_trans k7 (grown_trans hg2'' (grown_setCell _ _ _ _))
  clear c0 c1 c2 c3
  obtain ⟨c0, c1, c2, c3⟩ := d_cells j1
  have fr := d_free j1
  clear hown2 hg2 hg2' hg2'' j1 j5 j6 hbs1 HK1 HK5 HK6 k7
  go_wp2
  have hsz : B ≤ (w2.setCell ⟨g, 3, none⟩ (.slice la l.length lc)).drew.heap.size := Nat.le_trans hB (grown_drew hT.out).size
  generalize w2.setCell ⟨g, 3, none⟩ (.slice la l.length lc) = W0 at *
  have HS0 := hide hS.out.drew
  have HT0 := hide (grown_drew hT.out)
  have HA : Hid (m1 ≠ g ∧ m2 ≠ g ∧ B ≤ m1 ∧ B ≤ m2) := ⟨by omega, by omega, by omega, by omega⟩
  clear c0 c1 c2 c3 fr
  obtain ⟨c0, c1, c2, c3⟩ := d_cells hS.out.1
  clear hS hT
  go_region_with (first | (go_at_call 101; (refine (ap_note h0 hs HS0.out HA.out.1 HA.out.2.1 hsz n HL.out.symm).mono ?_; rintro e W1 ⟨rfl, d0, HX, hgr⟩)) | (go_at_call 100; (refine (ap_add a n cap HA.out.2.2.1 HA.out.2.2.2 k4 HA.out.1 (Nat.le_trans hsz hgr.size) HX.out (HK.out W1 (grown_trans HT0.out hgr)) hn).mono ?_; rintro e W2 ⟨rfl, HS1, hgr2⟩)))
  all_goals
    have HF : Hid (w.grownBy W2 (some g)) := by
      have h1 := grown_trans HT0.out hgr
      refine ⟨hgr2.os.trans h1.os, hgr2.tape.trans h1.tape, hgr2.output.trans h1.output, Nat.le_trans h1.size hgr2.size, fun k hk hne => ?_⟩
      rw [hgr2.block k (Nat.lt_of_lt_of_le hk h1.size) (by simp; omega)]
      exact h1.block k hk hne
    go_wp2
    go_ret
    exact ⟨rfl, HS1.out, HF.out⟩
end Go.Proofs.YtdogecaonlmalaaGreat
