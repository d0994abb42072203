/- What Append does to a disk of whatever many files. -/
import Derived.Test.YtjdbkmjhjcmoaaaDskD
namespace Go.Proofs.Ytjdbkmjhjcmoaaa
open Go.RowKit Go.MapKept Go.ChangeMaps

theorem DskAt.later {w w' : World} {O : Nat → Prop} {g r1 r2 : Nat} {F G : Files} {cs : List (ByteArray × Nat)} {lo : List Int} {l1 : List (Ent ByteArray)} {c1 : Nat} {l2 : List (Ent ByteArray)} {c2 : Nat} {sv lv : Value} (h : DskAt w O g r1 r2 F G cs lo l1 c1 l2 c2 sv lv) (hb : Below w.heap.size w w') : DskAt w' O g r1 r2 F G cs lo l1 c1 l2 c2 sv lv :=
  have ht : Tch (fun _ => False) w w' := Below.tch hb
  ⟨ht.old h.obj (fun e => e), h.now.later hb, h.syn.later hb, h.since.tch ht (fun _ _ e => e), ht.owns h.loose (fun _ _ e => e), h.r12, h.rows, h.lrow, h.own⟩

theorem OwnC.shape {w : World} {v : Value} {cs : List (ByteArray × Nat)} (h : OwnC w v cs) : ∃ a n c, v = .slice a n c := by
  rcases h.2 with ⟨rfl, _⟩ | ⟨g', cap, cur, rfl, _⟩
  · exact ⟨_, _, _, rfl⟩
  · exact ⟨_, _, _, rfl⟩

/-- append(own, c) of a row of changes. -/
theorem wpList_appC {w : World} {ops : Array Oper} {rest : List Oper} {o : Oper} {a : Act} {Q : Exit → Act → World → Prop} (hgd : o.guard = none) (s x : Operand)
    (ho : o.op = .call { callee := .builtin .append, args := #[s, x], argTypes := #[81, 81] })
    (v : Value) (cs : List (ByteArray × Nat)) (hs : a.eval s = v) (hown : OwnC w v cs) (q : Nat) (p : ByteArray × Nat) (hx : a.eval x = .slice (some ⟨q, 0, none⟩) 1 1) (hq : w.heap[q]? = some (.cells #[.int .i64 0, .string p.1, .int .i64 (p.2 : Int)] 104 (0, 0))) (hsz : cs.length ≤ 1000000)
    (h : ∀ v' w', OwnC w' v' (cs ++ [p]) → w.grownBy w' v.ownBlock → (v'.ownBlock = v.ownBlock ∨ v'.ownBlock = some w.heap.size) → wpList Try.prog ops Q rest (a.put o.dst v') w') :
    wpList Try.prog ops Q (o :: rest) a w := by
  obtain ⟨i0, hi, hz0, hz1, hz2⟩ := info_parts infoC
  obtain ⟨c0, c1, c2⟩ := cells3 hq
  refine wpList_append_own_at w hgd s x 81 ho 0 104 i0 _ 3 32 Try.underlying81 hi hz0 hz1 hz2 rfl (by decide) v cs.length (cs.flatMap chV) hs hown ⟨q, 0, none⟩ 1 1 (chV p) hx rfl ?_ ?_ (by simp only [maxLen]; omega) (by omega) (Nat.zero_le _) ?_
  · intro j u hj
    rw [Go.Proofs.Ytjdbkmjhjcmoaaa.add_none]
    unfold chV at hj
    match j, hj with
    | 0, hj => simp at hj; subst hj; exact c0
    | 1, hj => simp at hj; subst hj; exact c1
    | 2, hj => simp at hj; subst hj; exact c2
    | j + 3, hj => simp at hj
  · intro u hu
    simp [chV] at hu
    rcases hu with rfl | rfl | rfl <;> rfl
  · intro v' w' h2 h3 _ h5
    refine h v' w' ?_ h3 h5
    unfold OwnC
    rw [List.length_append, List.flatMap_append]
    simpa using h2

set_option maxRecDepth 100000 in
set_option maxHeartbeats 800000 in
/-- A change noted. -/
theorem note_m (O : Nat → Prop) (g r1 r2 : Nat) (F G : Files) (cs : List (ByteArray × Nat)) (lo : List Int) (s : ByteArray) (n : Nat) (w : World) (h : DskM w O g r1 r2 F G cs lo) (hO : ∀ k, w.heap.size ≤ k → O k) (h0 : 1 ≤ s.size) (hs : s.size ≤ 40) (hcs : cs.length ≤ 1000) :
    Calls Try.prog 44 #[.pointer (some ⟨g, 0, none⟩), .int .i64 0, .string s, .int .i64 n] w fun e w' => e = .returned (.string s) ∧ DskM w' O g r1 r2 F G (cs ++ [(s, n)]) lo ∧ Tch O w w' := by
  obtain ⟨l1, c1, l2, c2, sv, lv, h⟩ := h
  have HD := hide h
  clear h
  go_enter Try.func44, Try.ntmps44
  go_wp2_with fail
  refine (clone_any s _ (by omega) (by omega)).mono ?_
  rintro e w1 ⟨rfl, hb1⟩
  have hD1 := HD.out.later hb1
  obtain ⟨q0, q1, q2, q3⟩ := d_cells hD1.obj
  have HA := hide (hD1.later (below_alloc w1 (.cells #[.int .i64 0, .string s, .int .i64 (n : Int)] 104) _ (Nat.le_refl _)))
  have HB1 := hide hb1
  have hsz1 := hb1.size
  clear hD1 hb1
  go_wp2_with (at_builtin; refine wpList_appC rfl (.tmp 15) (.tmp 20) rfl sv cs rfl HA.out.since w1.heap.size (s, n) rfl (heap_alloc_new w1 _) (by omega) ?_)
  intro v2 w2 hown2 hg2 hl2
  obtain ⟨k1, k2, k3⟩ := HA.out.grewSince (fun k hk => hO k (by simp at hk; omega)) hg2 hown2 (by simpa using hl2)
  obtain ⟨ya, yn, yc, rfl⟩ := hown2.shape
  clear q0 q1 q2 q3
  obtain ⟨q0, q1, q2, q3⟩ := d_cells k3
  have fr := d_free k3
  have HK := hide k1
  have HT := hide (((Below.tch HB1.out).trans (Below.tch (below_alloc w1 _ _ (Nat.le_refl _)))).trans k2)
  clear k1 k2 k3 hown2 hg2 hl2 HA HB1
  go_wp2
  go_ret
  exact ⟨rfl, HK.out, HT.out⟩

/-- While an append is done: bytes are put behind a file at hand. -/
theorem add_m (O : Nat → Prop) (g r1 r2 : Nat) (F G : Files) (cs : List (ByteArray × Nat)) (lo : List Int) (s : ByteArray) (a : Option Addr) (n cap : Nat) (z : List Int) (w : World) (h : DskM w O g r1 r2 F G cs lo) (hO : ∀ k, w.heap.size ≤ k → O k) (hc : capF F 60000) (hb : Bs w a n cap z) (hn : n ≤ 2000) :
    Calls Try.prog 43 #[.map (some r1), .string s, .slice a n cap] w fun e w' => e = .returned (.tuple #[]) ∧ DskM w' O g r1 r2 (addF F s z) G cs lo ∧ Tch O w w' := by
  obtain ⟨l1, c1, l2, c2, sv, lv, h⟩ := h
  refine (filesAdd_any r1 l1 c1 F s a n cap z w h.now hc hb hn).mono ?_
  rintro e w' ⟨rfl, hg⟩
  have := h.grewNow hO hg
  exact ⟨rfl, this.1, this.2⟩

/-- A disk that has its maps. -/
def Dsk (w : World) (O : Nat → Prop) (g : Nat) (F G : Files) (cs : List (ByteArray × Nat)) (lo : List Int) : Prop := ∃ r1 r2, DskM w O g r1 r2 F G cs lo

set_option maxRecDepth 100000 in
set_option maxHeartbeats 1600000 in
/-- Append to a disk, once its maps are made. -/
theorem append_gen (O : Nat → Prop) (g : Nat) (mo : Option Nat) (F G : Files) (cs : List (ByteArray × Nat)) (lo : List Int) (s : ByteArray) (a av : Option Addr) (n cap an ac : Nat) (z : List Int) (w : World) (q0 : w.cell? ⟨g, 0, none⟩ = some (.map mo)) (lk : (Instr.lookup 80 (.map mo) (.string s) false).run Try.prog w = .ok (.slice av an ac) w) (han : an ≤ 5000)
    (hmk : Calls Try.prog 42 #[.pointer (some ⟨g, 0, none⟩)] w fun e w1 => e = .returned (.tuple #[]) ∧ Dsk w1 O g F G cs lo ∧ Tch O w w1) (hO : ∀ k, w.heap.size ≤ k → O k) (h0 : 1 ≤ s.size) (hs : s.size ≤ 40) (hc : capF F 5000) (hlo : lo.length ≤ 5000) (hcs : cs.length ≤ 1000) (hb : Bs w a n cap z) (hn : n ≤ 2000) (hab : ∀ ad, a = some ad → 0 < n → ¬ O ad.block) :
    Calls Try.prog 18 #[.pointer (some ⟨g, 0, none⟩), .string s, .slice a n cap] w fun e w' => e = .returned (.int .i64 0) ∧ Dsk w' O g (addF F s z) G (cs ++ [(s, n)]) (lo ++ z) ∧ Tch O w w' := by
  have d1 : decide ((s.size : Int) ≤ 40) = true := by simp; omega
  have d2 : decide (1 ≤ (s.size : Int)) = true := by simp; omega
  have d3 : decide ((n : Int) > 65536 - (an : Int)) = false := by simp; omega
  have HM := hide hmk
  have HB := hide hb
  have HAB := hide hab
  have HC := hide hc
  clear hmk hb hab hc
  go_enter Try.func18, Try.ntmps18
  go_wp2_with (first | (go_at_call 41; go_in) | fail)
  refine HM.out.mono ?_
  rintro e w1 ⟨rfl, ⟨r1, r2, l1, c1, l2, c2, sv, lv, hD⟩, hT1⟩
  have HD := hide hD
  have HT1 := hide hT1
  have HO2 : Hid (∀ W : World, w.heap.size ≤ W.heap.size → ∀ k, W.heap.size ≤ k → O k) := fun W hW k hk => hO k (by omega)
  have hO1 : ∀ k, w1.heap.size ≤ k → O k := fun k hk => hO k (Nat.le_trans hT1.size hk)
  clear q0 lk
  obtain ⟨q0, q1, q2, q3⟩ := d_cells hD.obj
  clear hD hT1 hO HM
  go_wp2_with (at_builtin; refine wpList_app rfl (.tmp 29) (.tmp 30) rfl 0 lv lo rfl HD.out.loose a n cap z rfl (HB.out.tch HT1.out HAB.out) (by omega) (Nat.zero_le _) ?_)
  intro lv' w2 hown2 hg2 hl2
  obtain ⟨k1, k2, k3⟩ := HD.out.grewLoose hO1 hg2 hown2 hl2
  obtain ⟨ya, yn, yc, rfl⟩ : ∃ a n c, lv' = .slice a n c := by
    obtain ⟨a', c', e, _⟩ := Bs.of_owns hown2
    exact ⟨a', _, c', e⟩
  clear q0 q1 q2 q3
  obtain ⟨q0, q1, q2, q3⟩ := d_cells k3
  have fr := d_free k3
  have HK := hide k1
  have HT := hide (HT1.out.trans k2)
  clear k1 k2 k3 hown2 hg2 hl2 HD HT1
  go_wp2
  clear q0 q1 q2 q3 fr
  generalize w2.setCell ⟨g, 3, none⟩ (.slice ya yn yc) = W0 at *
  obtain ⟨q0, q1⟩ := HK.out.cells
  have hOW : Hid (∀ W : World, w.heap.size ≤ W.heap.size → ∀ k, W.heap.size ≤ k → O k) := HO2.out
  have hDr : Below W0.heap.size W0 W0.drew := (Below.refl _ _).drew
  have HK0 := hide (HK.out.later hDr)
  have HT0 := hide (HT.out.trans (Below.tch (S := O) hDr))
  have HN : Hid (Calls Try.prog 44 #[.pointer (some ⟨g, 0, none⟩), .int .i64 0, .string s, .int .i64 n] W0.drew fun e w' => e = .returned (.string s) ∧ w'.cell? ⟨g, 0, none⟩ = some (.map (some r1)) ∧ Hid (DskM w' O g r1 r2 F G (cs ++ [(s, n)]) (lo ++ z)) ∧ Hid (Tch O w w')) := by
    refine (note_m O g r1 r2 F G cs (lo ++ z) s n W0.drew HK0.out (hOW.out _ HT0.out.size) h0 hs hcs).mono ?_
    rintro e w' ⟨rfl, j1, j2⟩
    exact ⟨rfl, j1.cells.1, j1, HT0.out.trans j2⟩
  have HX : Hid (∀ W, DskM W O g r1 r2 F G (cs ++ [(s, n)]) (lo ++ z) → Tch O w W → Calls Try.prog 43 #[.map (some r1), .string s, .slice a n cap] W fun e w' => e = .returned (.tuple #[]) ∧ Hid (DskM w' O g r1 r2 (addF F s z) G (cs ++ [(s, n)]) (lo ++ z) ∧ Tch O w w')) := by
    intro W hW hTW
    refine (add_m O g r1 r2 F G _ _ s a n cap z W hW (hOW.out _ hTW.size) (HC.out.mono (by omega)) (HB.out.tch hTW HAB.out) hn).mono ?_
    rintro e w' ⟨rfl, j1, j2⟩
    exact ⟨rfl, j1, hTW.trans j2⟩
  clear HK HT HK0 HT0 hDr HB HAB HC hOW HO2 hO1
  go_region_with (first | (go_at_call 44; (refine HN.out.mono ?_; rintro e W1 ⟨rfl, p0, HA1, HA2⟩)) | (go_at_call 43; (refine (HX.out _ HA1.out HA2.out).mono ?_; rintro e W2 ⟨rfl, HA3⟩)))
  all_goals
    go_wp2
    go_ret
    exact ⟨rfl, ⟨r1, r2, HA3.out.1⟩, HA3.out.2⟩

theorem append_m (O : Nat → Prop) (g : Nat) (F G : Files) (cs : List (ByteArray × Nat)) (lo : List Int) (s : ByteArray) (a : Option Addr) (n cap : Nat) (z : List Int) (w : World) (h : Dsk w O g F G cs lo) (hO : ∀ k, w.heap.size ≤ k → O k) (h0 : 1 ≤ s.size) (hs : s.size ≤ 40) (hc : capF F 5000) (hlo : lo.length ≤ 5000) (hcs : cs.length ≤ 1000) (hb : Bs w a n cap z) (hn : n ≤ 2000) (hab : ∀ ad, a = some ad → 0 < n → ¬ O ad.block) :
    Calls Try.prog 18 #[.pointer (some ⟨g, 0, none⟩), .string s, .slice a n cap] w fun e w' => e = .returned (.int .i64 0) ∧ Dsk w' O g (addF F s z) G (cs ++ [(s, n)]) (lo ++ z) ∧ Tch O w w' := by
  obtain ⟨r1, r2, l1, c1, l2, c2, sv, lv, h⟩ := h
  obtain ⟨av, an, ac, lk, han⟩ : ∃ av an ac, (Instr.lookup 80 (.map (some r1)) (.string s) false).run Try.prog w = .ok (.slice av an ac) w ∧ an ≤ 5000 := by
    have lk := h.now.mp.look strKeyd und101 (zeroBy w) s false
    rcases h.now.atS s with ⟨ha, _, _⟩ | ⟨x, hx, hxs, ha, z', hF, ho⟩
    · rw [ha] at lk
      exact ⟨none, 0, 0, lk, by simp⟩
    · rw [ha] at lk
      obtain ⟨b, cp, hv, _⟩ := Bs.of_owns ho
      rw [hv] at lk
      exact ⟨b, z'.length, cp, lk, hc s z' hF⟩
  refine append_gen O g (some r1) F G cs lo s a av n cap an ac z w (d_cells h.obj).1 lk han ?_ hO h0 hs hc hlo hcs hb hn hab
  refine (makeMaps_more g r1 (some r2) sv lv w h.obj).mono ?_
  rintro e w1 ⟨rfl, rfl⟩
  exact ⟨rfl, ⟨r1, r2, l1, c1, l2, c2, sv, lv, h⟩, ⟨rfl, rfl, rfl, Nat.le_refl _, fun _ _ _ => rfl⟩⟩

theorem fil_new {w : World} {r : Nat} (h : w.heap[r]? = some (.map #[] 0)) : Fil w r [] 0 (fun _ => none) :=
  ⟨⟨h, by simp, by simp, by simp⟩, by simp, by simp, by simp⟩
theorem rowsOf_nil (k : Nat) : ¬ rowsOf [] k := by rintro ⟨x, hx, _⟩; simp at hx

/-- Append to a disk that has no maps yet. -/
theorem append_0 (O : Nat → Prop) (g : Nat) (s : ByteArray) (a : Option Addr) (n cap : Nat) (z : List Int) (w : World) (h : w.heap[g]? = some (dObj none none (.slice none 0 0) (.slice none 0 0))) (hg : O g) (hO : ∀ k, w.heap.size ≤ k → O k) (h0 : 1 ≤ s.size) (hs : s.size ≤ 40) (hb : Bs w a n cap z) (hn : n ≤ 2000) (hab : ∀ ad, a = some ad → 0 < n → ¬ O ad.block) :
    Calls Try.prog 18 #[.pointer (some ⟨g, 0, none⟩), .string s, .slice a n cap] w fun e w' => e = .returned (.int .i64 0) ∧ Dsk w' O g (addF (fun _ => none) s z) (fun _ => none) [(s, n)] z ∧ Tch O w w' := by
  refine append_gen O g none (fun _ => none) (fun _ => none) [] [] s a none n cap 0 0 z w (d_cells h).1 (look_nothing und101 s false w) (by omega) ?_ hO h0 hs (fun s z e => by cases e) (by simp) (by simp) hb hn hab
  refine (makeMaps_first g _ _ w h).mono ?_
  rintro e w1 ⟨m1, m2, rfl, k1, k2, k3, k4, k5, k6, k7⟩
  refine ⟨rfl, ⟨m1, m2, [], 0, [], 0, .slice none 0 0, .slice none 0 0, ⟨k1, fil_new k5, fil_new k6, OwnC.nil _, World.ownsInts_nil _ _ _ _, k4, fun k hk => absurd hk (rowsOf_nil k), fun k hk => (by cases hk), hg, hO _ k2, hO _ k3, fun k hk => absurd hk (rowsOf_nil k), fun k hk => absurd hk (rowsOf_nil k), fun k hk => (by cases hk), fun k hk => (by cases hk)⟩⟩, (Tch.of k7).mono (fun k _ e => (Option.some.inj e).symm ▸ hg)⟩

set_option maxRecDepth 100000 in
theorem append_bad (g : Nat) (s : ByteArray) (v : Value) (w : World) (hs : s.size = 0) :
    Calls Try.prog 18 #[.pointer (some ⟨g, 0, none⟩), .string s, v] w fun e w' => e = .returned (.int .i64 2) ∧ w' = w := by
  have d2 : decide (1 ≤ (s.size : Int)) = false := by simp [hs]
  go_enter Try.func18, Try.ntmps18
  go_wp2_with (first | (go_at_call 41; go_in) | fail)
  go_ret
  exact ⟨rfl, rfl⟩
end Go.Proofs.Ytjdbkmjhjcmoaaa
