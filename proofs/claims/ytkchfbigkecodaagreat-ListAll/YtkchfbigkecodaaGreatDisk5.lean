/- A second Append, Crash and Read, as begun uses them. -/
import Derived.Test.YtkchfbigkecodaaGreatDisk4
namespace Go.Proofs.YtkchfbigkecodaaGreat
open Go.RowKit

theorem P3.drew {B g m1 m2 : Nat} {s : ByteArray} {v v2 sv lv : Value} {l l2 : List Int} {w : World} (h : P3 B g m1 m2 s v v2 sv lv l l2 w) : P3 B g m1 m2 s v v2 sv lv l l2 w.drew :=
  ⟨(Go.Proofs.YtkchfbigkecodaaGreat.heap_drew _ _).trans h.1, (Go.Proofs.YtkchfbigkecodaaGreat.heap_drew _ _).trans h.2.1, (Go.Proofs.YtkchfbigkecodaaGreat.heap_drew _ _).trans h.2.2.1, owns_later h.2.2.2.1 (Below.refl _ _).drew, owns_later h.2.2.2.2.1 (Below.refl _ _).drew, owns_later h.2.2.2.2.2.1 (Below.refl _ _).drew, h.2.2.2.2.2.2.1, h.2.2.2.2.2.2.2⟩

set_option maxRecDepth 100000 in
set_option maxHeartbeats 1600000 in
theorem append_second (B g : Nat) (s : ByteArray) (a : Option Addr) (n cap : Nat) (l l2 : List Int) (w : World) (hS : S2 B g s l w) (hB : B ≤ w.heap.size) (h0 : 1 ≤ s.size) (hs : s.size ≤ 40) (h : Bs w a n cap l2) (hn : n ≤ 1000) (hl0 : 0 < l.length) (hl : l.length ≤ 1000) :
    Calls Tryz.prog 87 #[.pointer (some ⟨g, 0, none⟩), .string s, .slice a n cap] w fun e w' => e = .returned (.int .i64 0) ∧ S3 B g s l l2 w' ∧ Tch (fun k => k = g ∨ B ≤ k) w w' := by
  obtain ⟨m1, m2, v, v2, hg, hm1, hm2, b1, b2, h12, ho, ho2, hd⟩ := hS
  obtain ⟨gv, vc, rfl, hgv, hvb⟩ := owns_shape ho hl0
  obtain ⟨c0, c1, c2, c3⟩ := d_cells hg
  have lk := look_one und101 s false w hm1
  simp only [if_false, Bool.false_eq_true] at lk
  have d1 : decide ((s.size : Int) ≤ 40) = true := by simp; omega
  have d2 : decide (1 ≤ (s.size : Int)) = true := by simp; omega
  have HK := hide (h.keepD hg)
  have HL := hide h.1
  have HM := hide (makeMaps_more g m1 (some m2) _ _ w hg)
  have HG := hide hg
  have HM1 := hide hm1
  have HM2 := hide hm2
  have HO := hide ho
  have HO2 := hide ho2
  have HD := hide hd
  have hgvlt := (ho.1.lt gv rfl).2
  have hm1lt := lt_of_heap hm1
  have hbs1 := h
  have HLL := hide hl0
  obtain ⟨N, HN⟩ : ∃ N, Hid (N = l.length) := ⟨_, rfl⟩
  have hN1 : N ≤ 1000 := by rw [HN.out]; exact hl
  rw [← HN.out] at lk
  clear h hg hm1 hm2 ho ho2 hd hvb hl0
  go_enter Tryz.func87, Tryz.ntmps87
  go_wp2_with (first | (go_at_call 124; go_in) | fail)
  refine HM.out.mono ?_
  rintro e w1 ⟨rfl, rfl⟩
  go_wp2_with (at_builtin; refine wpList_app rfl (.tmp 29) (.tmp 30) rfl B _ [] rfl (World.ownsInts_nil _ _ _ _) a n cap l2 rfl hbs1 (by simp; omega) hB ?_)
  intro lv w2 hown2 hg2 hloc
  have hg2' : w1.grownBy w2 none := hg2
  have hg2'' : w1.grownBy w2 (some g) := ⟨hg2'.os, hg2'.tape, hg2'.output, hg2'.size, fun k hk _ => hg2'.block k hk (by simp)⟩
  have j1 := (hg2'.block g (lt_of_heap HG.out) (by simp)).trans HG.out
  obtain ⟨la, lc, rfl, _⟩ := Bs.of_owns hown2
  have hS : Hid (P3 B g m1 m2 s (.slice (some ⟨gv, 0, none⟩) l.length vc) v2 (.slice none 0 0) (.slice la l2.length lc) l l2 (w2.setCell ⟨g, 3, none⟩ (.slice la l2.length lc))) := by
    have hol : w2.ownsInts B 5 .u8 (.slice la l2.length lc) l2 := by simpa using hown2
    have keep : ∀ {u : Value} {ll : List Int}, w2.ownsInts B 5 .u8 u ll → (w2.setCell ⟨g, 3, none⟩ (.slice la l2.length lc)).ownsInts B 5 .u8 u ll := fun hu => (Tch.of (grown_setCell _ g 3 _)).owns hu (fun k hk e => kind_owns hu j1 (dObj_kind _ _ _ _) (by rw [hk, e]))
    have o1 := (Tch.of hg2').owns HO.out (fun k _ e => by cases e)
    have o2 := (Tch.of hg2').owns HO2.out (fun k _ e => by cases e)
    refine ⟨(d_set j1 none _).2.2.2, ?_, ?_, keep o1, keep o2, keep hol, HD.out, ?_⟩
    · rw [Below.heap_setCell _ _ _ _ (by simp; intro e; have := HM1.out; rw [e, HG.out] at this; simp [dObj, fmap] at this)]
      exact (hg2'.block m1 (lt_of_heap HM1.out) (by simp)).trans HM1.out
    · rw [Below.heap_setCell _ _ _ _ (by simp; intro e; have := HM2.out; rw [e, HG.out] at this; simp [dObj, fmap] at this)]
      exact (hg2'.block m2 (lt_of_heap HM2.out) (by simp)).trans HM2.out
    · intro k hk e
      have hk' : k = gv := by simpa [Value.ownBlock] using hk.symm
      rcases hloc with e' | e'
      · rw [e] at e'; simp [Value.ownBlock] at e'
      · rw [e] at e'; simp at e'; omega
  have hT : Hid (w1.grownBy (w2.setCell ⟨g, 3, none⟩ (.slice la l2.length lc)) (some g)) := grown_trans hg2'' (grown_setCell _ _ _ _)
  clear c0 c1 c2 c3 lk
  obtain ⟨c0, c1, c2, c3⟩ := d_cells j1
  have fr := d_free j1
  clear hown2 hg2 hg2' hg2'' j1 hbs1 hloc
  go_wp2
  have hsz : B ≤ (w2.setCell ⟨g, 3, none⟩ (.slice la l2.length lc)).drew.heap.size := Nat.le_trans hB (grown_drew hT.out).size
  generalize w2.setCell ⟨g, 3, none⟩ (.slice la l2.length lc) = W0 at *
  have HS0 := hide hS.out.drew
  have HT0 := hide (grown_drew hT.out)
  clear c0 c1 c2 c3 fr
  obtain ⟨c0, c1, c2, c3⟩ := d_cells hS.out.1
  have HV : Hid ((∀ k, (Value.slice (some ⟨gv, 0, none⟩) l.length vc).ownBlock = some k → k < W0.drew.heap.size) ∧ m1 < W0.drew.heap.size) := by
    refine ⟨fun k hk => ?_, lt_of_heap HS0.out.2.1⟩
    exact (HS0.out.2.2.2.1.1.lt k hk).2
  clear hS hT
  go_region_with (first | (go_at_call 127; (refine (ap2_note h0 hs HS0.out n HL.out.symm).mono ?_; rintro e W1 ⟨rfl, d0, HX, hgr⟩)) | (go_at_call 126; (refine (ap2_add a n cap (Nat.le_trans hsz hgr.size) b1 h12 HV.out.1 HV.out.2 HX.out (HK.out W1 (grown_trans HT0.out hgr)) hn hl).mono ?_; rintro e W2 ⟨rfl, HS1, HB2⟩)))
  all_goals
    have HF : Hid (Tch (fun k => k = g ∨ B ≤ k) w1 W2) := (tchG (grown_trans HT0.out hgr)).trans (tchB HB2.out)
    go_wp2
    go_ret
    exact ⟨rfl, HS1.out, HF.out⟩
end Go.Proofs.YtkchfbigkecodaaGreat
