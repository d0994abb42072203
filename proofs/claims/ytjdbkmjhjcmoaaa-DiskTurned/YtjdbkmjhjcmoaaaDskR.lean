/- Changes done again: whatever many appends, as far as the bytes reach. -/
import Derived.Test.YtjdbkmjhjcmoaaaDskA
import Derived.Test.YtjdbkmjhjcmoaaaLawG
namespace Go.Proofs.Ytjdbkmjhjcmoaaa
open Go.RowKit Go.MapKept Go.ChangeMaps

theorem Tch.andThen {S S' : Nat → Prop} {a b c : World} (h : Tch S a b) (k : Tch S' b c) (hs : ∀ i, i < a.heap.size → S' i → S i) : Tch S a c :=
  ⟨k.os.trans h.os, k.tape.trans h.tape, k.output.trans h.output, Nat.le_trans h.size k.size, fun i hi hn => (k.block i (Nat.lt_of_lt_of_le hi h.size) (fun e => hn (hs i hi e))).trans (h.block i hi hn)⟩

theorem Grew.refl {w : World} {r : Nat} {l : List (Ent ByteArray)} {c : Nat} {F : Files} (h : Fil w r l c F) : Grew w w r l F := ⟨l, c, h, ⟨rfl, rfl, rfl, Nat.le_refl _, fun _ _ _ => rfl⟩, fun _ hk => Or.inl hk⟩

/-- One growth behind another. -/
theorem Grew.andThen {w wr W W' : World} {r : Nat} {l l' : List (Ent ByteArray)} {F : Files} (h2 : Tch (fun k => k = r ∨ rowsOf l k) w wr) (h3 : ∀ k, rowsOf l' k → rowsOf l k ∨ w.heap.size ≤ k) (hb : Below wr.heap.size wr W) (h : Grew W W' r l' F) : Grew w W' r l F := by
  obtain ⟨m, c, k1, k2, k3⟩ := h
  have hbt : Tch (fun k => k = r ∨ rowsOf l k) wr W := Below.tch hb
  have hw := (h2.trans hbt).size
  refine ⟨m, c, k1, (h2.trans hbt).andThen k2 (fun i hi e => ?_), fun k hk => ?_⟩
  · rcases e with e | e
    · exact Or.inl e
    · rcases h3 i e with e | e
      · exact Or.inr e
      · omega
  · rcases k3 k hk with e | e
    · exact h3 k e
    · right; omega

theorem Bs.tch {S : Nat → Prop} {w w' : World} {a : Option Addr} {n cap : Nat} {z : List Int} (h : Bs w a n cap z) (ht : Tch S w w') (hs : ∀ ad, a = some ad → 0 < n → ¬ S ad.block) : Bs w' a n cap z := by
  obtain ⟨h1, h2, h3, h4, h5, h6⟩ := h
  refine ⟨h1, h2, h3, h4, fun hp => ?_, h6⟩
  obtain ⟨b, o, rfl, hc⟩ := h5 hp
  refine ⟨b, o, rfl, fun i hi => ?_⟩
  have h0 := hc i hi
  rw [World.cell?_of_block (ht.block _ (lt_of_cell h0) (hs ⟨b, o, none⟩ rfl hp))]
  exact h0
theorem Bs.not_map {w : World} {ad : Addr} {n cap r c : Nat} {es : Array MapEntry} {z : List Int} (h : Bs w (some ad) n cap z) (hn : 0 < n) (hr : w.heap[r]? = some (.map es c)) : ad.block ≠ r := by
  obtain ⟨b, o, e, hc⟩ := h.2.2.2.2.1 hn
  cases e
  rintro rfl
  have := hc 0 hn
  simp [World.cell?, hr] at this
theorem add_block (x : Addr) (i : Nat) : (x.add i).block = x.block := by unfold Addr.add; split <;> rfl
theorem cutA_block {a : Option Addr} {cap i : Nat} {ad : Addr} (h : cutA a cap i = some ad) : ∃ x, a = some x ∧ x.block = ad.block := by
  unfold cutA at h
  split at h
  · exact ⟨ad, h, rfl⟩
  · cases a with
    | none => simp at h
    | some x => simp at h; exact ⟨x, rfl, by rw [← h, add_block]⟩

/-- Changes: appends of so many bytes. -/
def chV (p : ByteArray × Nat) : List Value := [.int .i64 0, .string p.1, .int .i64 (p.2 : Int)]
def OwnC (w : World) (v : Value) (cs : List (ByteArray × Nat)) : Prop := w.ownsRow 0 104 3 v cs.length (cs.flatMap chV)

theorem OwnC.nil (w : World) : OwnC w (.slice none 0 0) [] := World.ownsRow_nil _ _ _ _
theorem OwnC.kept {w w' : World} {v : Value} {cs : List (ByteArray × Nat)} {row : Option Nat} (h : OwnC w v cs) (hg : w.grownBy w' row) (hne : v.ownBlock = none ∨ v.ownBlock ≠ row) : OwnC w' v cs := World.ownsRow.kept h hg hne
theorem OwnC.tch {S : Nat → Prop} {w w' : World} {v : Value} {cs : List (ByteArray × Nat)} (h : OwnC w v cs) (ht : Tch S w w') (hs : ∀ k, v.ownBlock = some k → ¬ S k) : OwnC w' v cs := by
  obtain ⟨h1, h2⟩ := h
  refine ⟨h1, ?_⟩
  rcases h2 with h2 | ⟨g, cap, cur, rfl, hg, hh, r⟩
  · exact Or.inl h2
  · exact Or.inr ⟨g, cap, cur, rfl, hg, ht.old hh (hs g rfl), r⟩
theorem flatC_at (cs : List (ByteArray × Nat)) (i j : Nat) (p : ByteArray × Nat) (h : cs[i]? = some p) (hj : j < 3) : (cs.flatMap chV)[i * 3 + j]? = (chV p)[j]? := by
  induction cs generalizing i with
  | nil => simp at h
  | cons x cs ih =>
    rw [List.flatMap_cons]
    cases i with
    | zero =>
      simp at h
      subst h
      rw [List.getElem?_append_left (by simp [chV]; omega)]
      simp
    | succ i =>
      rw [List.getElem?_append_right (by simp [chV]; omega)]
      have e : (i + 1) * 3 + j - (chV x).length = i * 3 + j := by simp [chV]; omega
      rw [e]
      exact ih i (by simpa using h)
/-- Where they lie. -/
theorem OwnC.cells {w : World} {v : Value} {cs : List (ByteArray × Nat)} (h : OwnC w v cs) : (v = .slice none 0 0 ∧ cs = []) ∨ ∃ g cap cur, v = .slice (some ⟨g, 0, none⟩) cs.length cap ∧ w.heap[g]? = some (.cells cur 104 (0, 0)) ∧ ∀ (i : Nat) (s : ByteArray) (n : Nat), cs[i]? = some (s, n) → ∀ W : World, W.heap[g]? = w.heap[g]? →
    W.cell? ⟨g, i * 3, none⟩ = some (.int .i64 0) ∧ W.cell? ⟨g, i * 3 + 1, none⟩ = some (.string s) ∧ W.cell? ⟨g, i * 3 + 2, none⟩ = some (.int .i64 (n : Int)) := by
  obtain ⟨h1, h2⟩ := h
  rcases h2 with ⟨rfl, h0⟩ | ⟨g, cap, cur, rfl, hg, hh, hn, hm, hs, ht⟩
  · exact Or.inl ⟨rfl, List.length_eq_zero_iff.1 h0⟩
  · refine Or.inr ⟨g, cap, cur, rfl, hh, fun i s n hi W hW => ?_⟩
    have hil : i < cs.length := (List.getElem?_eq_some_iff.1 hi).1
    have key : ∀ j, j < 3 → cur[i * 3 + j]? = (chV (s, n))[j]? := by
      intro j hj
      rw [← flatC_at cs i j _ hi hj, ← ht, List.getElem?_take, if_pos (by omega)]
      simp
    have k0 := key 0 (by omega); have k1 := key 1 (by omega); have k2 := key 2 (by omega)
    simp only [chV, Nat.add_zero, List.getElem?_cons_zero, List.getElem?_cons_succ] at k0 k1 k2
    refine ⟨?_, ?_, ?_⟩ <;> simp [World.cell?, hW, hh, k0, k1, k2]

theorem Fil.apart {w : World} {r g : Nat} {l : List (Ent ByteArray)} {c : Nat} {F : Files} {o : Obj} (h : Fil w r l c F) (hg : w.heap[g]? = some o) (ho : ∀ c, o ≠ .cells c 5 (0, 0)) : ¬ rowsOf l g := by
  rintro ⟨x, hx, e⟩
  obtain ⟨z, _, hz⟩ := h.row x hx
  exact kind_owns hz hg ho e
theorem change_kind (cur : Array Value) : ∀ c, Obj.cells cur 104 (0, 0) ≠ .cells c 5 (0, 0) := by
  intro c e; simp at e

set_option maxRecDepth 100000 in
theorem redo_none (mo : Option Nat) (p : Option Addr) (sc : Nat) (v : Value) (w : World) :
    Calls Try.prog 45 #[.map mo, .slice p 0 sc, v] w fun e w' => e = .returned (.tuple #[]) ∧ w' = w := by
  go_enter Try.func45, Try.ntmps45
  go_wp2
  refine wp_loop_rounds 1 ?_
  rw [rounds_succ]
  go_wp2
  go_end0
  exact ⟨rfl, rfl⟩

/-- Between two changes. -/
structure Redo (w wr : World) (r : Nat) (l : List (Ent ByteArray)) (M lb : Nat) (cs : List (ByteArray × Nat)) (T : Files) (k : Nat) (ao : Option Addr) (n cap : Nat) : Prop where
  at' : ∃ lo F l' c', Bs wr ao n cap lo ∧ (∀ ad, ao = some ad → 0 < n → ad.block = lb) ∧ Fil wr r l' c' F ∧ Tch (fun k => k = r ∨ rowsOf l k) w wr ∧ (∀ k, rowsOf l' k → rowsOf l k ∨ w.heap.size ≤ k) ∧ capF F (M - n) ∧ n ≤ M ∧ T = redoF F (cs.drop k) lo

theorem Redo.done {w wr : World} {r : Nat} {l : List (Ent ByteArray)} {M lb : Nat} {cs : List (ByteArray × Nat)} {T : Files} {k : Nat} {ao : Option Addr} {n cap : Nat} (h : Redo w wr r l M lb cs T k ao n cap) (hk : ¬ k < cs.length) : Grew w wr r l T := by
  obtain ⟨lo, F, l', c', _, _, h1, h2, h3, _, _, h4⟩ := h.at'
  rw [List.drop_eq_nil_of_le (by omega)] at h4
  subst h4
  exact ⟨l', c', h1, h2, h3⟩

/-- An append that is there whole. -/
theorem Redo.add {w wr : World} {r : Nat} {l : List (Ent ByteArray)} {M lb : Nat} {cs : List (ByteArray × Nat)} {T : Files} {k : Nat} {ao : Option Addr} {n cap : Nat} (h : Redo w wr r l M lb cs T k ao n cap) (hM : M ≤ 3000) (hn : n ≤ 2000) (hlr : ¬ rowsOf l lb) (hlw : lb < w.heap.size) (s : ByteArray) (m : Nat) (hk : cs[k]? = some (s, m)) (hm : m ≤ n) (W : World) (hb : Below wr.heap.size wr W) (o : Obj) (q : Nat) (hq : W.heap[q]? = some o) (hqw : wr.heap.size ≤ q) :
    Calls Try.prog 43 #[.map (some r), .string s, .slice ao m cap] W fun e W' => e = .returned (.tuple #[]) ∧ Redo w W' r l M lb cs T (k + 1) (cutA ao cap m) (n - m) (cap - m) ∧ W'.heap[q]? = some o := by
  obtain ⟨lo, F, l', c', h1, h2, h3, h4, h5, h6, h7, h8⟩ := h.at'
  have h1W := h1.later hb (Nat.le_refl _)
  have h3W := h3.later hb
  have hlen := h1.1
  refine (filesAdd_any r l' c' F s ao m cap (lo.take m) W h3W (h6.mono (by omega)) (h1W.take m hm) (by omega)).mono ?_
  rintro e W' ⟨rfl, hg⟩
  have hG := Grew.andThen h4 h5 hb hg
  obtain ⟨m1, c1, k1, k2, k3⟩ := hg
  obtain ⟨m2, c2, g1, g2, g3⟩ := hG
  have hsz := h4.size
  have hlt := h3.lt
  have hcs : cs.drop k = (s, m) :: cs.drop (k + 1) := by
    obtain ⟨hl, e⟩ := List.getElem?_eq_some_iff.1 hk
    rw [List.drop_eq_getElem_cons hl, e]
  have hcap := (h6.add s (lo.take m)).mono (M' := M - (n - m)) (by rw [List.length_take]; omega)
  refine ⟨rfl, ⟨lo.drop m, _, m2, c2, ?_, ?_, g1, g2, g3, hcap, by omega, ?_⟩, ?_⟩
  · refine (h1W.fromAt m (n - m) hm rfl).tch k2 (fun ad ha hp => ?_)
    obtain ⟨x, hx, hxb⟩ := cutA_block ha
    have hx2 := h2 x hx (by omega)
    have hxr := Bs.not_map (ad := x) (by rw [← hx]; exact h1W) (by omega) h3W.mp.heap
    rw [← hxb]
    rintro (e | e)
    · exact hxr e
    · rw [hx2] at e
      rcases h5 lb e with e | e
      · exact hlr e
      · omega
  · intro ad ha hp
    obtain ⟨x, hx, hxb⟩ := cutA_block ha
    rw [← hxb]
    exact h2 x hx (by omega)
  · rw [h8, hcs, redoF, if_pos (by omega)]
  · refine k2.old hq ?_
    rintro (e | e)
    · have := hlt.1; omega
    · have := hlt.2 q e; omega

/-- An append that is torn. -/
theorem Redo.tear {w wr : World} {r : Nat} {l : List (Ent ByteArray)} {M lb : Nat} {cs : List (ByteArray × Nat)} {T : Files} {k : Nat} {ao : Option Addr} {n cap : Nat} (h : Redo w wr r l M lb cs T k ao n cap) (hM : M ≤ 3000) (hn : n ≤ 2000) (s : ByteArray) (m : Nat) (hk : cs[k]? = some (s, m)) (hm : ¬ m ≤ n) (W : World) (hb : Below wr.heap.size wr W) :
    Calls Try.prog 65 #[.map (some r), .string s, .slice ao n cap] W fun e W' => e = .returned (.tuple #[]) ∧ Grew w W' r l T := by
  obtain ⟨lo, F, l', c', h1, h2, h3, h4, h5, h6, h7, h8⟩ := h.at'
  have hlen := h1.1
  refine (filesTear_any r l' c' F s ao n cap lo W (h3.later hb) (h6.mono (by omega)) (h1.later hb (Nat.le_refl _)) hn).mono ?_
  rintro e W' ⟨rfl, hg⟩
  have hcs : cs.drop k = (s, m) :: cs.drop (k + 1) := by
    obtain ⟨hl, e⟩ := List.getElem?_eq_some_iff.1 hk
    rw [List.drop_eq_getElem_cons hl, e]
  refine ⟨rfl, ?_⟩
  rw [h8, hcs, redoF, if_neg (by omega)]
  exact Grew.andThen h4 h5 hb hg

theorem Redo.same {w wr : World} {r g : Nat} {l : List (Ent ByteArray)} {M lb : Nat} {cs : List (ByteArray × Nat)} {T : Files} {k : Nat} {ao : Option Addr} {n cap : Nat} (h : Redo w wr r l M lb cs T k ao n cap) (hg : g < w.heap.size) (h1 : g ≠ r) (h2 : ¬ rowsOf l g) : wr.heap[g]? = w.heap[g]? := by
  obtain ⟨lo, F, l', c', _, _, _, h4, _⟩ := h.at'
  exact h4.block g hg (by rintro (e | e); exact h1 e; exact h2 e)

theorem Redo.len {w wr : World} {r : Nat} {l : List (Ent ByteArray)} {M lb : Nat} {cs : List (ByteArray × Nat)} {T : Files} {k : Nat} {ao : Option Addr} {n cap : Nat} (h : Redo w wr r l M lb cs T k ao n cap) : n ≤ cap ∧ cap ≤ 9223372036854775807 := by
  obtain ⟨lo, F, l', c', h1, _⟩ := h.at'
  exact ⟨h1.2.1, h1.2.2.1⟩

set_option maxRecDepth 100000 in
set_option maxHeartbeats 1600000 in
theorem redo_some (r gs sc : Nat) (l : List (Ent ByteArray)) (M lb : Nat) (cs : List (ByteArray × Nat)) (T : Files) (a : Option Addr) (n cap : Nat) (w : World) (h : Redo w w r l M lb cs T 0 a n cap) (hM : M ≤ 3000) (hn : n ≤ 2000) (hlr : ¬ rowsOf l lb) (hlw : lb < w.heap.size) (hgs : gs < w.heap.size) (hgr : gs ≠ r) (hgl : ¬ rowsOf l gs) (hcs : cs.length ≤ 1000) (hcn : ∀ p ∈ cs, p.2 ≤ 2000)
    (hcell : ∀ (i : Nat) (s : ByteArray) (n : Nat), cs[i]? = some (s, n) → ∀ W : World, W.heap[gs]? = w.heap[gs]? → W.cell? ⟨gs, i * 3, none⟩ = some (.int .i64 0) ∧ W.cell? ⟨gs, i * 3 + 1, none⟩ = some (.string s) ∧ W.cell? ⟨gs, i * 3 + 2, none⟩ = some (.int .i64 (n : Int))) :
    Calls Try.prog 45 #[.map (some r), .slice (some ⟨gs, 0, none⟩) cs.length sc, .slice a n cap] w fun e w' => e = .returned (.tuple #[]) ∧ Grew w w' r l T := by
  have HR := hide h
  have HC := hide hcell
  have HA := hide (And.intro hlr (And.intro hlw (And.intro hgs (And.intro hgr (And.intro hgl hcn)))))
  clear h hcell hlr hlw hgs hgr hgl hcn
  go_enter Try.func45, Try.ntmps45
  go_wp2
  go_loopw [2, 10] (fun v i wr => ∃ (k : Nat) (ao : Option Addr) (m cap' : Nat), k ≤ cs.length ∧ i = .int .i64 k ∧ v = .slice ao m cap' ∧ m ≤ 2000 ∧ Hid (Redo w wr r l M lb cs T k ao m cap')) (fun _ i _ => cs.length - (intOf i).toNat)
  case atStart => exact ⟨0, a, n, cap, by omega, rfl, rfl, hn, HR⟩
  case round =>
    obtain ⟨k, ao, m, cap', hk, rfl, rfl, hm, HK⟩ := hrel
    by_cases hlt : k < cs.length
    · obtain ⟨⟨s, j⟩, hs⟩ : ∃ p, cs[k]? = some p := ⟨_, List.getElem?_eq_getElem hlt⟩
      obtain ⟨c0, c1, c2⟩ := HC.out k s j hs wr (HK.out.same HA.out.2.2.1 HA.out.2.2.2.1 HA.out.2.2.2.2.1)
      have hj := HA.out.2.2.2.2.2 _ (List.mem_of_getElem? hs)
      simp only at hj
      have hkl := HK.out.len
      have HS := hide hs
      clear hs
      by_cases hjm : j ≤ m
      · have su := fun W => run_uptoA ao m cap' j (j : Int) rfl (by omega) W
        have sr := fun W => run_fromA ao m cap' j (m - j) (j : Int) rfl hjm rfl W
        have HX : Hid (∀ o, Calls Try.prog 43 #[.map (some r), .string s, .slice ao j cap'] (wr.alloc o).drew fun e W' => e = .returned (.tuple #[]) ∧ Redo w W' r l M lb cs T (k + 1) (cutA ao cap' j) (m - j) (cap' - j) ∧ W'.heap[wr.heap.size]? = some o) :=
          fun o => HK.out.add hM hm HA.out.1 HA.out.2.1 s j HS.out hjm _ ((Below.refl _ _).alloc (Nat.le_refl _) _).drew o _ (heap_alloc_new wr o) (Nat.le_refl _)
        have dj : decide ((j : Int) > (m : Int)) = false := by simp; omega
        clear HC HA HR HK
        go_wp2
        go_region_with (go_at_call 43; (refine (HX.out _).mono ?_; rintro e W1 ⟨rfl, H1, H2⟩; have q2 := (cells3 H2).2.2; have HK := hide H1; clear H1 H2))
        all_goals
          go_wp2
          exact ⟨⟨k + 1, _, _, _, by omega, rfl, rfl, by omega, HK⟩, by simp [intOf]; omega⟩
      · have HX : Hid (∀ o, Calls Try.prog 65 #[.map (some r), .string s, .slice ao m cap'] (wr.alloc o) fun e W' => e = .returned (.tuple #[]) ∧ Grew w W' r l T) :=
          fun o => HK.out.tear hM hm s j HS.out hjm _ (below_alloc wr o _ (Nat.le_refl _))
        have dj : decide ((j : Int) > (m : Int)) = true := by simp; omega
        clear HC HA HR HK
        go_wp2_with fail
        refine (HX.out _).mono ?_
        rintro e W1 ⟨rfl, H1⟩
        have HG := hide H1
        clear H1 HX
        go_wp2
        exact bodyPost_ret (v := .tuple #[]) (by simp [results, Try.results45, go_sem]) rfl ⟨rfl, HG.out⟩
    · have HG := hide (HK.out.done hlt)
      clear HC HA HR HK
      go_wp2
      go_end0
      exact ⟨rfl, HG.out⟩

/-- Changes done again. -/
theorem redo_any (r : Nat) (l : List (Ent ByteArray)) (c : Nat) (F : Files) (cs : List (ByteArray × Nat)) (sv : Value) (a : Option Addr) (n cap : Nat) (lo : List Int) (M lb : Nat) (w : World) (h : Fil w r l c F) (hS : OwnC w sv cs) (hb : Bs w a n cap lo) (hlb : ∀ ad, a = some ad → 0 < n → ad.block = lb) (hlr : ¬ rowsOf l lb) (hlw : lb < w.heap.size) (hcap : capF F M) (hM : M + n ≤ 3000) (hn : n ≤ 2000) (hcs : cs.length ≤ 1000) (hcn : ∀ p ∈ cs, p.2 ≤ 2000) :
    Calls Try.prog 45 #[.map (some r), sv, .slice a n cap] w fun e w' => e = .returned (.tuple #[]) ∧ Grew w w' r l (redoF F cs lo) := by
  rcases hS.cells with ⟨rfl, rfl⟩ | ⟨gs, sc, cur, rfl, hh, hcell⟩
  · refine (redo_none (some r) none 0 _ w).mono ?_
    rintro e w' ⟨rfl, rfl⟩
    exact ⟨rfl, Grew.refl h⟩
  · refine redo_some r gs sc l (M + n) lb cs _ a n cap w ⟨lo, F, l, c, hb, hlb, h, ⟨rfl, rfl, rfl, Nat.le_refl _, fun _ _ _ => rfl⟩, fun _ hk => Or.inl hk, hcap.mono (by omega), by omega, rfl⟩ hM hn hlr hlw (lt_of_heap hh) ?_ (h.apart hh (change_kind cur)) hcs hcn hcell
    rintro rfl
    have := h.mp.heap
    rw [hh] at this
    simp at this
end Go.Proofs.Ytjdbkmjhjcmoaaa
