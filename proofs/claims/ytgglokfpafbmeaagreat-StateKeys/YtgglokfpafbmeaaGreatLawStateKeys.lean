/- The statement StateKeys: keys are told by their order, of each kind; a key without anything is not told, for all changes. -/
import Derived.Test.YtgglokfpafbmeaaGreatStaG
import Derived.Test.YtgglokfpafbmeaaGreatBeg7
import Derived.Test.YtgglokfpafbmeaaGreatLawA
import Derived.Deep.LoopGhost
import Derived.Deep.CutBlock
import Derived.Deep.CutRange
import Derived.Deep.QuietTactic
import Derived.BigQuiet
namespace Go.Proofs.YtgglokfpafbmeaaGreat.stateKeys
open Go.ChangeShapes Go.WideShapes Go.ChangeAt Go.RowKit Go.MapKept Go.ChangeMaps

theorem undB : Tryz.prog.underlying 85 = some (.map 28 4) := Tryz.underlying85
theorem zeroB (w : World) : (zeroValue 4).run Tryz.prog w = .ok (.bool false) w := by
  have hz : Tryz.t4.zero = some (.bool false) := by kernel_rfl
  simp [zeroValue, hz]
theorem len_map {w : World} {r : Nat} {l : List (Ent K3)} {c : Nat} (h : Mp k3E w r l c) (ty : TypeId) : (Builtin.len_ #[85] ty #[.map (some r)]).run Tryz.prog w = .ok (.int .i64 (l.length : Int)) w := by
  have h3 := Go.MapKept.run_getObj_map (P := Tryz.prog) h.heap
  simp [Builtin.len_, run_underlying undB, h3, goInt]

/-- The keys noted so far, in the law's map at m. -/
structure Gb (w wr : World) (m : Nat) (P : K3 → Prop) (l : List (Ent K3)) (c : Nat) : Prop where
  mp : Mp k3E wr m l c
  yes : ∀ k, P k → atE l k = some (.bool true)
  no : ∀ k, ¬ P k → atE l k = none
  tch : Tch (fun j => j = m) w wr
theorem Gb.keys {w wr : World} {m : Nat} {P : K3 → Prop} {l : List (Ent K3)} {c : Nat} (h : Gb w wr m P l c) (k : K3) : k ∈ l.map Ent.k ↔ P k := by
  rw [atE_key]
  constructor
  · intro hn
    by_cases hp : P k
    · exact hp
    · exact absurd (h.no k hp) hn
  · intro hp
    rw [h.yes k hp]
    simp
theorem Gb.put {w wr W : World} {m : Nat} {P : K3 → Prop} {l : List (Ent K3)} {c : Nat} (h : Gb w wr m P l c) (hb : Below wr.heap.size wr W) (k : K3) :
    ∃ W2 l' c', (Instr.mapUpdate 85 (.map (some m)) (k3E k) (.bool true)).run Tryz.prog W = .ok () W2 ∧ Gb w W2 m (fun b => P b ∨ b = k) l' c' := by
  have hm : Mp k3E W m l c := h.mp.at (hb.block _ h.mp.lt)
  obtain ⟨W2, l', c', h1, h2, h3, h4, h5⟩ := hm.upd2 k3Keyd undB k (.bool true)
  refine ⟨W2, l', c', h1, h2, fun b hb' => ?_, fun b hb' => ?_, (h.tch.trans (Below.tch hb)).trans ((Tch.of h3).mono (fun j _ e => Option.some.inj e))⟩
  · rw [h4 b]
    by_cases e : b = k
    · rw [if_pos e]
    · rw [if_neg e]
      exact h.yes b (hb'.resolve_right e)
  · rw [h4 b, if_neg (fun e => hb' (Or.inr e))]
    exact h.no b (fun e => hb' (Or.inl e))
theorem Gb.same {w wr : World} {m : Nat} {P P' : K3 → Prop} {l : List (Ent K3)} {c : Nat} (h : Gb w wr m P l c) (hp : ∀ k, P k ↔ P' k) : Gb w wr m P' l c :=
  ⟨h.mp, fun k hk => h.yes k ((hp k).2 hk), fun k hk => h.no k (fun e => hk ((hp k).1 e)), h.tch⟩

/-- The state as the law holds it. -/
def Kd (w W : World) (s v1 l1 d1 : Nat) (a : Ab) (N : Nat) : Prop := (∃ O : Nat → Prop, Sg W O s v1 l1 d1 a N ∧ ∀ k, O k → k < W.heap.size ∧ w.heap.size ≤ k) ∧ Below w.heap.size w W
theorem Kd.later {w W W' : World} {s v1 l1 d1 : Nat} {a : Ab} {N : Nat} (h : Kd w W s v1 l1 d1 a N) (hb : Below W.heap.size W W') : Kd w W' s v1 l1 d1 a N := by
  obtain ⟨⟨O, h1, h2⟩, h3⟩ := h
  exact ⟨⟨O, h1.later hb, fun k hk => ⟨Nat.lt_of_lt_of_le (h2 k hk).1 hb.size, (h2 k hk).2⟩⟩, h3.trans (hb.mono h3.size)⟩
/-- One change told. -/
theorem Kd.do1 {w W : World} {s v1 l1 d1 : Nat} {a : Ab} {N M : Nat} (h : Kd w W s v1 l1 d1 a N) (x : Mq) (hl : ∀ k, (a.L k).length ≤ M) (hM : M < 100) :
    Calls Tryz.prog 25 #[.pointer (some ⟨s, 0, none⟩), .slice (some ⟨W.heap.size, 0, none⟩) 1 1] (W.alloc (mtObj x.m)) fun e w' => (∃ n, e = .returned (.int .i64 n)) ∧ Hid (Kd w w' s v1 l1 d1 (runQ a (if mayB x.m then [x] else [])) (N + 1)) := by
  have hb := below_alloc W (mtObj x.m) W.heap.size (Nat.le_refl _)
  have hms := Ms.one W x.m
  have hL := h.later hb
  obtain ⟨⟨O, h1, h2⟩, h3⟩ := h
  cases hx : mayB x.m with
  | true =>
    have h5 : Sg (W.alloc (mtObj x.m)) (fun k => O k ∨ (W.alloc (mtObj x.m)).heap.size ≤ k) s v1 l1 d1 a N := (h1.later hb).wide (fun k hk _ => Or.inl hk)
    refine (h5.few (fun k hk => Or.inr hk) (some ⟨W.heap.size, 0, none⟩) 1 1 [x] hms (fun b o e => ?_) (fun y hy => by simp at hy; subst hy; exact hx) M hl (by omega)).mono ?_
    · cases e
      rintro (h6 | h6)
      · have := (h2 _ h6).1; omega
      · simp at h6; omega
    · rintro e w' ⟨r1, r2, r3⟩
      have hs := r3.size
      have h4 := h3.size
      have h6 := hb.size
      refine ⟨⟨_, r1⟩, ⟨fun k => (O k ∨ (W.alloc (mtObj x.m)).heap.size ≤ k) ∧ k < w'.heap.size, r2.wide (fun k h7 h8 => ⟨h7, h8⟩), fun k hk => ⟨hk.2, ?_⟩⟩, (h3.trans (hb.mono h4)).trans (r3.below (fun k hk h7 => ?_) (by omega))⟩
      · rcases hk.1 with h7 | h7
        · exact (h2 k h7).2
        · omega
      · rcases h7 with h7 | h7
        · have := (h2 k h7).2; omega
        · omega
  | false =>
    refine (hL.1.choose_spec.1.form (some ⟨W.heap.size, 0, none⟩) 1 1 [x.m] hms (by omega) (by simp [hx])).mono ?_
    rintro e w' ⟨r1, r2⟩
    have h6 := hL.later r2
    exact ⟨⟨_, r1⟩, ⟨h6.1.imp (fun O h7 => ⟨h7.1.more (by omega), h7.2⟩), h6.2⟩⟩
theorem Kd.cells {w W : World} {s v1 l1 d1 : Nat} {a : Ab} {N : Nat} (h : Kd w W s v1 l1 d1 a N) : W.cell? ⟨s, 0, none⟩ = some (.pointer (some ⟨v1, 0, none⟩)) ∧ W.cell? ⟨s, 1, none⟩ = some (.pointer (some ⟨l1, 0, none⟩)) ∧ W.cell? ⟨s, 2, none⟩ = some (.pointer (some ⟨d1, 0, none⟩)) := by
  obtain ⟨⟨O, h1, _⟩, _⟩ := h
  exact h1.cells

set_option maxRecDepth 100000 in
set_option maxHeartbeats 8000000 in
theorem walk (pa : Option Addr) (c cc : Nat) (xs : List Mq) (w : World) (hP : Ms w pa c (xs.map Mq.m)) (_hw : ∀ x ∈ xs, wfQ x) (_hcc : c ≤ cc) (_h63 : cc ≤ 9223372036854775807) :
    Calls Tryz.prog 12 #[.slice pa c cc] w fun e w' => e = .returned (.bool true) ∧ Below w.heap.size w w' := by
  have HP := hide hP
  have HXL : Hid (xs.length = c) := by have := hP.1; rw [List.length_map] at this; exact this
  clear hP
  go_enter Tryz.func12, Tryz.ntmps12
  go_wp2_with fail
  refine (begun7_true _).mono ?_
  rintro e w0 ⟨rfl, hb0⟩
  go_wp2_with fail
  refine (stateNew w0).mono ?_
  rintro e w9 ⟨rfl, rfl⟩
  have hbN := newSt_below w0
  have hzN := newSt_size w0
  have HK0 : Hid (Kd w (newSt w0) (w0.heap.size + 1 + 1 + 1) w0.heap.size (w0.heap.size + 1) (w0.heap.size + 1 + 1) ab0 0) :=
    ⟨⟨fun k => w0.heap.size ≤ k ∧ k < (newSt w0).heap.size, (Sg.new w0).wide (fun k h1 h2 => ⟨h1, h2⟩), fun k hk => ⟨hk.2, by have := hb0.size; omega⟩⟩, hb0.trans (hbN.mono hb0.size)⟩
  clear hb0 hbN hzN
  generalize newSt w0 = w1 at *
  generalize w0.heap.size + 1 + 1 + 1 = s at *
  generalize w0.heap.size + 1 + 1 = d1 at *
  generalize w0.heap.size + 1 = l1 at *
  generalize w0.heap.size = v1 at *
  go_upto_block 0 with fail
  go_cut [5] from 17 to 33 (fun _ wc => Hid (∃ t, t ≤ 40 ∧ Kd w wc s v1 l1 d1 (runQ ab0 (goodQ xs t)) t))
  case first =>
    go_wp2_with fail
    go_loopg [5] 40 (fun gm ix wr => ∃ t : Nat, gm = 40 - t ∧ t ≤ c ∧ t ≤ 40 ∧ ix = .int .i64 t ∧ Hid (Kd w wr s v1 l1 d1 (runQ ab0 (goodQ xs t)) t))
    case atStart => exact ⟨0, rfl, by omega, by omega, rfl, HK0⟩
    case round =>
      clear HK0
      obtain ⟨t, rfl, ht, htm, rfl, HO⟩ := hrel
      by_cases hin : t < c ∧ t < 40
      · obtain ⟨hlt, hltm⟩ := hin
        obtain ⟨x, hx⟩ : ∃ x, xs[t]? = some x := ⟨_, List.getElem?_eq_getElem (by rw [HXL.out]; exact hlt)⟩
        obtain ⟨b, o, rfl, z0, z1', z2, z3, z4, z5⟩ := (HP.out.later HO.out.2 (Nat.le_refl _)).atQ hx
        have HC := hide (HO.out.do1 x (M := t) (fun k => by have h1 := runQ_len k (goodQ xs t) ab0; have h2 := goodQ_len xs t; have e0 : (ab0.L k).length = 0 := rfl; omega) (by omega))
        rw [← runQ_app, ← goodQ_next hx] at HC
        have hn1 : (mtObj x.m) = .cells #[.int .i64 x.c, .int .i64 x.k.g, .int .i64 x.k.n, .int .i64 x.k.i, .int .i64 x.f, .int .i64 x.v] 61 := rfl
        rw [hn1] at HC
        clear hx HO hn1
        go_wp2_with fail
        refine HC.out.mono ?_
        rintro e w2 ⟨⟨n2, rfl⟩, HN⟩
        clear z0 z1' z2 z3 z4 z5 HC
        go_wp2
        go_roundg (40 - (t + 1))
        case measure => omega
        case rel => exact ⟨t + 1, rfl, by omega, by omega, by simp, HN⟩
      · have hcs : (¬ t < c) ∨ (t < c ∧ ¬ t < 40) := by omega
        clear hin
        rcases hcs with hh | ⟨hh, hh2⟩
        all_goals
          go_wp2_with fail
          go_meet
          case rel => exact ⟨t, htm, HO.out⟩
  case rest =>
    obtain ⟨N, hN40, hK⟩ := hcut.out
    have HK := hide hK
    have hN : N ≤ 1000 := by omega
    generalize runQ ab0 (goodQ xs N) = a at *
    clear hcut hK HK0 HP HXL
    have hmm := @run_makeMap Tryz.prog
    have hb := below_alloc wc (.map #[] 0) wc.heap.size (Nat.le_refl _)
    have hs0 : (wc.alloc (.map #[] 0)).heap.size = wc.heap.size + 1 := by simp
    have H1 : Hid (Kd w (wc.alloc (.map #[] 0)) s v1 l1 d1 a N ∧ Mp k3E (wc.alloc (.map #[] 0)) wc.heap.size ([] : List (Ent K3)) 0 ∧ (∃ O : Nat → Prop, Sg (wc.alloc (.map #[] 0)) O s v1 l1 d1 a N ∧ ∀ k, O k → k ≠ wc.heap.size) ∧ w.heap.size ≤ wc.heap.size) := by
      refine ⟨HK.out.later hb, Mp.new wc, ?_, HK.out.2.size⟩
      obtain ⟨⟨O, h1, h2⟩, _⟩ := HK.out
      exact ⟨O, h1.later hb, fun k hk e => by have := (h2 k hk).1; omega⟩
    clear hb HK
    go_wp2
    generalize wc.alloc (.map #[] 0) = w0' at *
    generalize hm0 : wc.heap.size = m at *
    clear hm0
    obtain ⟨c0, c1, c2⟩ := H1.out.1.cells
    have hD := (Below.refl w0'.heap.size w0').drew
    have HC1 : Hid (Calls Tryz.prog 44 #[.pointer (some ⟨v1, 0, none⟩)] w0'.drew fun e w' => ∃ p q k0, e = .returned (.slice p k0.length q) ∧ Hid (Tk w' w0'.heap.size (.slice p k0.length q) k0 (fun k => a.V k ≠ none) ∧ k0.length ≤ N ∧ Below w0'.heap.size w0' w') ∧
        (w'.cell? ⟨s, 0, none⟩ = some (.pointer (some ⟨v1, 0, none⟩)) ∧ w'.cell? ⟨s, 1, none⟩ = some (.pointer (some ⟨l1, 0, none⟩)) ∧ w'.cell? ⟨s, 2, none⟩ = some (.pointer (some ⟨d1, 0, none⟩)))) := by
      obtain ⟨O, hO, _⟩ := H1.out.2.2.1
      obtain ⟨X, hX⟩ := StaS.rdV (hO.later hD).st
      refine (valueKeys X v1 N a.V _ hX hN).mono ?_
      rintro e w' ⟨v0, k0, r1, r2, r3, r4, r5⟩
      obtain ⟨p, q, rfl⟩ := r4.shape
      have hT := hD.trans (r5.mono hD.size)
      have r2' : ∀ k, k ∈ k0 ↔ a.V k ≠ none := r2
      exact ⟨p, q, k0, r1, ⟨⟨r2', r3, row_mono r4 hD.size⟩, hX.klen r3.nodup (fun k hk => (r2' k).1 hk), hT⟩, same_cell hT c0, same_cell hT c1, same_cell hT c2⟩
    have HC2 : Hid (∀ W1, Below w0'.heap.size w0' W1 → Calls Tryz.prog 45 #[.pointer (some ⟨l1, 0, none⟩)] W1 fun e w' => ∃ p q k1, e = .returned (.slice p k1.length q) ∧ Hid (Tk w' w0'.heap.size (.slice p k1.length q) k1 (fun k => a.L k ≠ []) ∧ k1.length ≤ N ∧ Below W1.heap.size W1 w') ∧
        (w'.cell? ⟨s, 0, none⟩ = some (.pointer (some ⟨v1, 0, none⟩)) ∧ w'.cell? ⟨s, 1, none⟩ = some (.pointer (some ⟨l1, 0, none⟩)) ∧ w'.cell? ⟨s, 2, none⟩ = some (.pointer (some ⟨d1, 0, none⟩)))) := fun W1 hW => by
      obtain ⟨O, hO, _⟩ := H1.out.2.2.1
      obtain ⟨X, hX⟩ := StaS.rdL (hO.later hW).st
      refine (listKeys X l1 N a.L _ hX hN).mono ?_
      rintro e w' ⟨v0, k0, r1, r2, r3, r4, r5⟩
      obtain ⟨p, q, rfl⟩ := r4.shape
      have hT := hW.trans (r5.mono hW.size)
      exact ⟨p, q, k0, r1, ⟨⟨r2, r3, row_mono r4 hW.size⟩, hX.klen r3.nodup (fun k hk => (r2 k).1 hk), r5⟩, same_cell hT c0, same_cell hT c1, same_cell hT c2⟩
    have HC3 : Hid (∀ W1, Below w0'.heap.size w0' W1 → Calls Tryz.prog 18 #[.pointer (some ⟨d1, 0, none⟩)] W1 fun e w' => ∃ p q k2, e = .returned (.slice p k2.length q) ∧ Hid (Tk w' w0'.heap.size (.slice p k2.length q) k2 (fun k => a.D k ≠ []) ∧ k2.length ≤ N ∧ Below W1.heap.size W1 w') ∧
        (w'.cell? ⟨s, 0, none⟩ = some (.pointer (some ⟨v1, 0, none⟩)) ∧ w'.cell? ⟨s, 1, none⟩ = some (.pointer (some ⟨l1, 0, none⟩)) ∧ w'.cell? ⟨s, 2, none⟩ = some (.pointer (some ⟨d1, 0, none⟩)))) := fun W1 hW => by
      obtain ⟨O, hO, _⟩ := H1.out.2.2.1
      obtain ⟨X, hX⟩ := StaS.rdD (hO.later hW).st
      refine (dictKeys X d1 N a.D _ hX hN).mono ?_
      rintro e w' ⟨v0, k0, r1, r2, r3, r4, r5⟩
      obtain ⟨p, q, rfl⟩ := r4.shape
      have hT := hW.trans (r5.mono hW.size)
      exact ⟨p, q, k0, r1, ⟨⟨r2, r3, row_mono r4 hW.size⟩, hX.klen r3.nodup (fun k hk => (r2 k).1 hk), r5⟩, same_cell hT c0, same_cell hT c1, same_cell hT c2⟩
    clear hD hmm
    go_region_held3 (fun w' => w'.cell? ⟨s, 0, none⟩ = some (.pointer (some ⟨v1, 0, none⟩)) ∧ w'.cell? ⟨s, 1, none⟩ = some (.pointer (some ⟨l1, 0, none⟩)) ∧ w'.cell? ⟨s, 2, none⟩ = some (.pointer (some ⟨d1, 0, none⟩))) (first | with_reducible exact ⟨c0, c1, c2⟩ | with_reducible exact k4 | with_reducible exact k5 | with_reducible exact k6 | go_keep)
      (first | (go_at_call 44; with_reducible refine HC1.out.mono ?_; rintro e W1 ⟨pp0, q0, ks0, rfl, K1, k4⟩) | (go_at_call 45; with_reducible refine (HC2.out _ K1.out.2.2).mono ?_; rintro e W2 ⟨pp1, q1, ks1, rfl, K2, k5⟩) | (go_at_call 18; with_reducible refine (HC3.out _ (K1.out.2.2.trans (K2.out.2.2.mono K1.out.2.2.size))).mono ?_; rintro e W3 ⟨pp2, q2, ks2, rfl, K3, k6⟩))
    all_goals
      clear HC1 HC2 HC3 c0 c1 c2 k4 k5 k6
      have t0 := (K1.out.1.later K2.out.2.2).later K3.out.2.2
      have t1 := K2.out.1.later K3.out.2.2
      have t2 := K3.out.1
      have hB3 := K1.out.2.2.trans ((K2.out.2.2.trans (K3.out.2.2.mono K2.out.2.2.size)).mono K1.out.2.2.size)
      obtain ⟨pa, cp, ka, e0, e1, e2, h3⟩ := three_of t0.own t1.own t2.own
      have hb4 := below_alloc W3 (.cells #[.slice pp0 ks0.length q0, .slice pp1 ks1.length q1, .slice pp2 ks2.length q2] 37) W3.heap.size (Nat.le_refl _)
      have hB4 := hB3.trans (hb4.mono hB3.size)
      have HM4 := hide (H1.out.2.1.later hB4 (Nat.le_refl _))
      have HBW : Hid (Below w.heap.size w (W3.alloc (.cells #[.slice pp0 ks0.length q0, .slice pp1 ks1.length q1, .slice pp2 ks2.length q2] 37)) ∧ ∃ O : Nat → Prop, Sg (W3.alloc (.cells #[.slice pp0 ks0.length q0, .slice pp1 ks1.length q1, .slice pp2 ks2.length q2] 37)) O s v1 l1 d1 a N ∧ ∀ k, O k → k ≠ m) := by
        obtain ⟨O, hO, hO2⟩ := H1.out.2.2.1
        exact ⟨H1.out.1.2.trans (hB4.mono H1.out.1.2.size), O, hO.later hB4, hO2⟩
      have HMEM : Hid (∀ k, (∃ j, j < 3 ∧ k ∈ ka j) ↔ (a.V k ≠ none ∨ a.L k ≠ [] ∨ a.D k ≠ [])) := fun k => by
        rw [← t0.mem k, ← t1.mem k, ← t2.mem k, ← e0, ← e1, ← e2]
        constructor
        · rintro ⟨j, hj, hm⟩
          rcases (show j = 0 ∨ j = 1 ∨ j = 2 by omega) with rfl | rfl | rfl
          · exact Or.inl hm
          · exact Or.inr (Or.inl hm)
          · exact Or.inr (Or.inr hm)
        · rintro (hm | hm | hm)
          · exact ⟨0, by omega, hm⟩
          · exact ⟨1, by omega, hm⟩
          · exact ⟨2, by omega, hm⟩
      have HLEN : Hid ((ka 0).length ≤ N ∧ (ka 1).length ≤ N ∧ (ka 2).length ≤ N) := by
        rw [e0, e1, e2]; exact ⟨K1.out.2.1, K2.out.2.1, K3.out.2.1⟩
      have HRI : Hid (∀ j, j < 3 → RiseK (ka j)) := fun j hj => by
        rcases (show j = 0 ∨ j = 1 ∨ j = 2 by omega) with rfl | rfl | rfl
        · rw [e0]; exact t0.rise
        · rw [e1]; exact t1.rise
        · rw [e2]; exact t2.rise
      have hqm : W3.heap.size ≠ m := by have := hB3.size; omega
      have HT3 := hide h3
      have HBm : Hid (m < w0'.heap.size ∧ w.heap.size ≤ m) := ⟨by omega, H1.out.2.2.2⟩
      clear t0 t1 t2 e0 e1 e2 h3 hb4 hB4 hB3 K1 K2 K3 H1 hs0
      go_wp2_with fail
      generalize W3.alloc (.cells #[.slice pp0 ks0.length q0, .slice pp1 ks1.length q1, .slice pp2 ks2.length q2] 37) = W4 at *
      generalize W3.heap.size = q at *
      have HG0 : Hid (Gb W4 W4 m (fun k => ∃ j, j < 0 ∧ k ∈ ka j) [] 0) := ⟨HM4.out, fun k hk => (by obtain ⟨j, hj, _⟩ := hk; omega), fun k _ => atE_nil k, Below.tch (Below.refl _ _)⟩
      go_loopg [8, 9, 52] 3 (fun gm _ _ i wr => ∃ (n : Nat) (l : List (Ent K3)) (c : Nat), gm = 3 - n ∧ n ≤ 3 ∧ i = .int .i64 n ∧ Hid (Gb W4 wr m (fun k => ∃ j, j < n ∧ k ∈ ka j) l c))
      case atStart => exact ⟨0, _, _, rfl, by omega, rfl, HG0⟩
      case round =>
        clear HG0
        obtain ⟨n, l, c, rfl, hn, rfl, HG⟩ := hrel
        by_cases hlt : n < 3
        · have hT := HT3.out.tch HG.out.tch hqm HBm.out.1
          have hcell := hT.cell n hlt
          obtain ⟨po, hpo⟩ : ∃ po, pa n = po := ⟨_, rfl⟩
          rw [hpo] at hcell
          have HPO := hide hpo
          clear hpo
          have HG1 : Hid (Gb W4 wr m (fun k => (∃ j, j < n ∧ k ∈ ka j) ∨ k ∈ (ka n).take 0) l c) := HG.out.same (fun k => by simp)
          have hle : (ka n).length ≤ 1000 := by
            rcases (show n = 0 ∨ n = 1 ∨ n = 2 by omega) with rfl | rfl | rfl
            · have := HLEN.out.1; omega
            · have := HLEN.out.2.1; omega
            · have := HLEN.out.2.2; omega
          clear hT HG
          have hdn : decide ((n : Int) < 3) = true := decide_eq_true (by omega)
          go_wp2_with fail
          try simp only [hdn]
          clear hdn
          go_loopg [9, 58] (ka n).length (fun gm _ i wq => ∃ (n2 : Nat) (l2 : List (Ent K3)) (c2 : Nat), gm = (ka n).length - n2 ∧ n2 ≤ (ka n).length ∧ i = .int .i64 n2 ∧ Hid (Gb W4 wq m (fun k => (∃ j, j < n ∧ k ∈ ka j) ∨ k ∈ (ka n).take n2) l2 c2))
          case atStart => exact ⟨0, _, _, rfl, by omega, rfl, HG1⟩
          case round =>
            clear HG1 hcell
            obtain ⟨n2, l2, c2, rfl, hn2, rfl, HG⟩ := hrel
            by_cases hlt2 : n2 < (ka n).length
            · have hT := HT3.out.tch HG.out.tch hqm HBm.out.1
              obtain ⟨x, hx⟩ : ∃ x, (ka n)[n2]? = some x := ⟨_, List.getElem?_eq_getElem hlt2⟩
              have ho := hT.own n hlt
              rw [HPO.out] at ho
              obtain ⟨g, rfl, hcp⟩ : ∃ g, po = some ⟨g, 0, none⟩ ∧ (ka n).length ≤ cp n := by
                rcases ho.slice with ⟨_, e⟩ | ⟨g, cp', e, h1, _⟩
                · rw [e] at hlt2; simp at hlt2
                · simp at e; exact ⟨g, e.1, by omega⟩
              obtain ⟨z0, z1, z2⟩ := ho.at hx
              have HNX : Hid (∀ W, Below wr.heap.size wr W → ∃ W5 l5 c5, (Instr.mapUpdate 85 (.map (some m)) (.agg #[.int .i64 x.g, .int .i64 x.n, .int .i64 x.i]) (.bool true)).run Tryz.prog W = .ok () W5 ∧ Hid (Gb W4 W5 m (fun k => (∃ j, j < n ∧ k ∈ ka j) ∨ k ∈ (ka n).take (n2 + 1)) l5 c5)) := fun W hW => by
                obtain ⟨W5, l5, c5, hup, hG5⟩ := HG.out.put hW x
                exact ⟨W5, l5, c5, hup, hG5.same (fun k => by rw [take_snoc hx, List.mem_append, List.mem_singleton, or_assoc])⟩
              by_cases hz : n2 = 0
              · obtain rfl : n2 = 0 := hz
                have s0d : wr.drew.cell? ⟨g, 0, none⟩ = some (.int .i64 x.g) ∧ wr.drew.cell? ⟨g, 1, none⟩ = some (.int .i64 x.n) ∧ wr.drew.cell? ⟨g, 2, none⟩ = some (.int .i64 x.i) := ⟨by simpa using z0, by simpa using z1, by simpa using z2⟩
                have hnc : 0 < cp n := by omega
                clear hT ho HG hx z0 z1 z2
                obtain ⟨z0, z1, z2⟩ := s0d
                go_wp2
                go_quiet (fail)
                have y0 : (wr.drewN nq).cell? ⟨g, 0, none⟩ = some (.int .i64 x.g) := z0
                have y1 : (wr.drewN nq).cell? ⟨g, 1, none⟩ = some (.int .i64 x.n) := z1
                have y2 : (wr.drewN nq).cell? ⟨g, 2, none⟩ = some (.int .i64 x.i) := z2
                clear z0 z1 z2
                obtain ⟨W5, l5, c5, hup, HG5⟩ := HNX.out (wr.drewN nq) (below_drewN (Below.refl _ _) nq)
                go_wp2
                go_roundg ((ka n).length - (0 + 1))
                case measure => omega
                case rel => exact ⟨0 + 1, _, _, rfl, by omega, by simp, HG5⟩
              · obtain ⟨p, hp⟩ : ∃ p, n2 = p + 1 := ⟨n2 - 1, by omega⟩
                obtain ⟨y, hy⟩ : ∃ y, (ka n)[p]? = some y := ⟨_, List.getElem?_eq_getElem (by omega)⟩
                obtain ⟨y0, y1, y2⟩ := ho.at hy
                have hle2 : lessK (k3T y) (k3T x) = true := by
                  obtain ⟨ha1, rfl⟩ := List.getElem?_eq_some_iff.1 hy
                  obtain ⟨hb1, rfl⟩ := List.getElem?_eq_some_iff.1 hx
                  exact List.pairwise_iff_getElem.1 (HRI.out n hlt) p n2 ha1 hb1 (by omega)
                have hD := (Below.refl wr.heap.size wr).drew
                have HC : Hid (Calls Tryz.prog 43 #[.agg #[.int .i64 y.g, .int .i64 y.n, .int .i64 y.i], .agg #[.int .i64 x.g, .int .i64 x.n, .int .i64 x.i]] wr.drew fun e w' => e = .returned (.bool true) ∧ Hid (Below wr.heap.size wr w') ∧ (w'.cell? ⟨g, p * 3, none⟩ = some (.int .i64 y.g) ∧ w'.cell? ⟨g, p * 3 + 1, none⟩ = some (.int .i64 y.n) ∧ w'.cell? ⟨g, p * 3 + 2, none⟩ = some (.int .i64 y.i) ∧ w'.cell? ⟨g, n2 * 3, none⟩ = some (.int .i64 x.g) ∧ w'.cell? ⟨g, n2 * 3 + 1, none⟩ = some (.int .i64 x.n) ∧ w'.cell? ⟨g, n2 * 3 + 2, none⟩ = some (.int .i64 x.i))) := by
                  refine Calls.mono (refLess_any (k3T y) (k3T x) wr.drew) ?_
                  rintro e w' ⟨r1, r2⟩
                  rw [hle2] at r1
                  have hT := hD.trans (r2.mono hD.size)
                  exact ⟨r1, hT, same_cell hT y0, same_cell hT y1, same_cell hT y2, same_cell hT z0, same_cell hT z1, same_cell hT z2⟩
                have s0d : wr.drew.cell? ⟨g, p * 3, none⟩ = some (.int .i64 y.g) ∧ wr.drew.cell? ⟨g, p * 3 + 1, none⟩ = some (.int .i64 y.n) ∧ wr.drew.cell? ⟨g, p * 3 + 2, none⟩ = some (.int .i64 y.i) ∧ wr.drew.cell? ⟨g, n2 * 3, none⟩ = some (.int .i64 x.g) ∧ wr.drew.cell? ⟨g, n2 * 3 + 1, none⟩ = some (.int .i64 x.n) ∧ wr.drew.cell? ⟨g, n2 * 3 + 2, none⟩ = some (.int .i64 x.i) := ⟨y0, y1, y2, z0, z1, z2⟩
                have hts : (n2 : Int) - 1 = (p : Int) := by omega
                have hwp : IntKind.i64.wrap (p : Int) = (p : Int) := by rw [IntKind.wrap_i64]; omega
                have hp0 : (0 : Int) ≤ (p : Int) := by omega
                have hpl : (p : Int) < ((ka n).length : Int) := by omega
                have hpl2 : p < (ka n).length := by omega
                have hpc : p < cp n := by omega
                have hnc : n2 < cp n := by omega
                have hz0 : (0 : Int) < (n2 : Int) := by omega
                have hzN : 0 < n2 := by omega
                clear hT ho HG hx hy hle2 hD hz hp y0 y1 y2 z0 z1 z2
                go_wp2
                go_region_held3 (fun w' => w'.cell? ⟨g, p * 3, none⟩ = some (.int .i64 y.g) ∧ w'.cell? ⟨g, p * 3 + 1, none⟩ = some (.int .i64 y.n) ∧ w'.cell? ⟨g, p * 3 + 2, none⟩ = some (.int .i64 y.i) ∧ w'.cell? ⟨g, n2 * 3, none⟩ = some (.int .i64 x.g) ∧ w'.cell? ⟨g, n2 * 3 + 1, none⟩ = some (.int .i64 x.n) ∧ w'.cell? ⟨g, n2 * 3 + 2, none⟩ = some (.int .i64 x.i)) (first | with_reducible exact s0d | with_reducible exact s1) ((go_at_call 43; with_reducible refine HC.out.mono ?_; rintro e W1 ⟨rfl, K1, s1⟩))
                all_goals
                  clear HC s0d
                  obtain ⟨W5, l5, c5, hup, HG5⟩ := HNX.out _ K1.out
                  obtain ⟨_, _, _, z0, z1, z2⟩ := s1
                  clear HNX K1
                  go_wp2
                  go_roundg ((ka n).length - (n2 + 1))
                  case measure => omega
                  case rel => exact ⟨n2 + 1, _, _, rfl, by omega, by simp, HG5⟩
            · have HGn : Hid (Gb W4 wr m (fun k => ∃ j, j < n + 1 ∧ k ∈ ka j) l2 c2) := HG.out.same (fun k => by
                rw [List.take_of_length_le (by omega)]
                constructor
                · rintro (⟨j, hj, hm⟩ | hm)
                  · exact ⟨j, by omega, hm⟩
                  · exact ⟨n, by omega, hm⟩
                · rintro ⟨j, hj, hm⟩
                  by_cases e : j = n
                  · subst e; exact Or.inr hm
                  · exact Or.inl ⟨j, by omega, hm⟩)
              clear HG
              go_wp2
              go_roundg (3 - (n + 1))
              case measure => omega
              case rel => exact ⟨n + 1, _, _, rfl, by omega, by simp, HGn⟩
        · obtain rfl : n = 3 := by omega
          obtain ⟨O, hO, hO2⟩ := HBW.out.2
          have HS := hide (hO.tch HG.out.tch (fun k h1 _ e => hO2 k h1 e))
          have HTO := hide (HS.out.told hN)
          have HBE : Hid (Below w.heap.size w wr) := HBW.out.1.trans (HG.out.tch.below (fun k hk e => by have := HBm.out.2; omega) HBW.out.1.size)
          have HG3 : Hid (Mp k3E wr m l c ∧ (∀ k, (a.V k ≠ none ∨ a.L k ≠ [] ∨ a.D k ≠ []) → atE l k = some (.bool true)) ∧ ∀ k, k ∈ l.map Ent.k ↔ (a.V k ≠ none ∨ a.L k ≠ [] ∨ a.D k ≠ [])) := ⟨HG.out.mp, fun k hk => HG.out.yes k ((HMEM.out k).2 hk), fun k => (HG.out.keys k).trans (HMEM.out k)⟩
          clear HG HMEM HT3 HLEN HM4 HRI hO hO2 HBW HS
          go_wp2_with fail
          refine HTO.out.mono ?_
          rintro e W6 ⟨v, ys, ks, rfl, k1, k2, k3, k4, k5⟩
          have HB6 : Hid (Below w.heap.size w W6) := HBE.out.trans (k5.mono HBE.out.size)
          have HM6 : Hid (Mp k3E W6 m l c) := HG3.out.1.later k5 (Nat.le_refl _)
          have HKK : Hid (∀ y ∈ ys, atE l y.c.k = some (.bool true)) := fun y hy => by
            have hk : y.c.k ∈ ks := by
              have h1 : y.c ∈ ks.map a.at := by rw [← k3]; exact List.mem_map_of_mem hy
              obtain ⟨k', h2, h3⟩ := List.mem_map.1 h1
              rw [← h3]
              exact h2
            exact HG3.out.2.1 _ ((k1.2 _).1 hk)
          have hll : l.length = ys.length := by
            have e1 : ys.length = ks.length := by
              have := congrArg List.length k3
              simpa using this
            have h1 := nodup_le (a := l.map Ent.k) (b := ks) HG3.out.1.keys (fun k hk => (k1.2 k).2 ((HG3.out.2.2 k).1 hk))
            have h2 := nodup_le (a := ks) (b := l.map Ent.k) k1.1.nodup (fun k hk => (HG3.out.2.2 k).2 ((k1.2 k).1 hk))
            rw [List.length_map] at h1 h2
            omega
          have hyl : ys.length ≤ 100000 := by
            have e1 : ys.length = ks.length := by
              have := congrArg List.length k3
              simpa using this
            omega
          have HR6 := hide k4
          obtain ⟨pv, cv, ev⟩ : ∃ pv cv, v = .slice pv ys.length cv := by
            rcases k4.slice with ⟨e1, e2⟩ | ⟨g, cp, e1, _⟩
            · subst e2; exact ⟨none, 0, e1⟩
            · exact ⟨_, _, e1⟩
          subst ev
          have hlm := fun ty (W : World) (hW : W.heap[m]? = W6.heap[m]?) => len_map (HM6.out.at hW) ty
          have HLM := hide hlm
          rw [hll] at HLM
          clear k1 k2 k3 k4 k5 HTO HG3 HBE hll hlm
          go_wp2_with fail
          go_loopw [87] (fun i wq => ∃ n : Nat, n ≤ ys.length ∧ i = .int .i64 n ∧ Hid (Below W6.heap.size W6 wq)) (fun i _ => ys.length - (intOf i).toNat)
          case atStart => exact ⟨0, by omega, rfl, Below.refl _ _⟩
          case round =>
            obtain ⟨n, hn, rfl, HB⟩ := hrel
            by_cases hlt : n < ys.length
            · obtain ⟨y, hy⟩ : ∃ y, ys[n]? = some y := ⟨_, List.getElem?_eq_getElem hlt⟩
              have hR := HR6.out.later HB.out
              obtain ⟨g, rfl, hcp⟩ : ∃ g, pv = some ⟨g, 0, none⟩ ∧ ys.length ≤ cv := by
                rcases hR.slice with ⟨_, e⟩ | ⟨g, cp', e, h1, _⟩
                · rw [e] at hlt; simp at hlt
                · simp at e; exact ⟨g, e.1, by omega⟩
              have hmem := List.mem_of_getElem? hy
              have hkk := HKK.out y hmem
              obtain ⟨lx, cx, ex, _⟩ := RowI.slice (hR.all _ hmem).la.row
              obtain ⟨dx, fx, gx, _⟩ := RowF.rd (hR.all _ hmem).da.row
              obtain ⟨⟨yk, yv, yl, yd⟩, yla, yda⟩ := y
              simp only at ex gx hkk
              subst ex
              subst gx
              obtain ⟨z0, z1, z2, z3, z4, z5, z6⟩ := hR.at hy
              simp only at z0 z1 z2 z3 z4 z5 z6
              have hbA := below_alloc wr (crO (⟨⟨yk, yv, yl, yd⟩, .slice lx yl.length cx, .slice dx yd.length fx⟩ : Cr)) wr.heap.size (Nat.le_refl _)
              have hmA : Mp k3E (wr.alloc (crO (⟨⟨yk, yv, yl, yd⟩, .slice lx yl.length cx, .slice dx yd.length fx⟩ : Cr))) m l c := (HM6.out.later HB.out (Nat.le_refl _)).later hbA (Nat.le_refl _)
              have hlk := hmA.look k3Keyd undB (zeroB _) yk false
              rw [hkk] at hlk
              have hlk' : (Instr.lookup 85 (.map (some m)) (.agg #[.int .i64 yk.g, .int .i64 yk.n, .int .i64 yk.i]) false).run Tryz.prog (wr.alloc (.cells #[.int .i64 yk.g, .int .i64 yk.n, .int .i64 yk.i, .bool yv.isSome, .int .i64 (yv.getD 0), .slice lx yl.length cx, .slice dx yd.length fx] 76)) = .ok (.bool true) (wr.alloc (.cells #[.int .i64 yk.g, .int .i64 yk.n, .int .i64 yk.i, .bool yv.isSome, .int .i64 (yv.getD 0), .slice lx yl.length cx, .slice dx yd.length fx] 76)) := hlk
              have HBN : Hid (Below W6.heap.size W6 (wr.alloc (.cells #[.int .i64 yk.g, .int .i64 yk.n, .int .i64 yk.i, .bool yv.isSome, .int .i64 (yv.getD 0), .slice lx yl.length cx, .slice dx yd.length fx] 76))) := HB.out.trans (hbA.mono HB.out.size)
              clear hlk hbA hmA hR hy HB HKK hmem hkk
              go_wp2
              exact ⟨⟨n + 1, by omega, by simp, HBN⟩, by simp [intOf]; omega⟩
            · obtain rfl : ys.length = n := by omega
              have hlm := fun ty => HLM.out ty wr (HB.out.block _ HM6.out.lt)
              have HBF : Hid (Below w.heap.size w wr) := HB6.out.trans (HB.out.mono HB6.out.size)
              clear HB HLM HKK HR6 HM6
              go_wp2
              go_ret
              exact ⟨by simp, HBF.out⟩

theorem own : ownKnob Tryz.prog.godebug = none := by kernel_rfl
theorem laidOut : laidOutB Tryz.prog = true := by kernel_rfl

set_option maxRecDepth 100000 in
theorem lifted (os : Os) (started : os.Started) (H : Type) (enc : TypeId × Value → H) :
    ReturnsInHanded {} Tryz.checked os 12 .any (Rows.stateKeysSpec.pre6 enc Tryz.prog Tryz.f12 Rows.stateKeysRow.domain false) (Rows.stateKeysSpec.post enc Tryz.prog Tryz.f12 false true false false) := by
  refine returnsInHanded_of_change (C := Tryz.checked) own started (by kernel_rfl) Tryz.func12
    (ChangeSpec.witness6 (enc := enc) (C := Tryz.checked) false ⟨#[], #[.slice none 0 0], []⟩ 8 (by kernel_rfl) (by kernel_rfl) (by kernel_rfl) (by kernel_rfl)) ?_
  intro W base args ds gs before hval0 hW hcnd _
  have hval : ∀ (j : Nat) t v, Tryz.f12.params[j]? = some t → args[j]? = some v → Value.okWide Tryz.prog W .any base t v := hval0
  have hW' := hW
  obtain ⟨p, q, hA0, hV, rfl, hfz, hnd⟩ := hW
  have hA : DataW.TrodAll enc Tryz.prog W 0 (fun _ => true) true Tryz.f12.params.toList args.toList ds p := hA0
  rw [Tryz.params12] at hA hval
  obtain ⟨v0, vs0, d0, ds0, p0, q0, hargs, rfl, rfl, h0, r0⟩ := trodAll_cons hA
  obtain ⟨rfl, rfl, rfl⟩ := trodAll_nil r0
  obtain rfl : args = #[v0] := by cases args; simp_all
  obtain ⟨rfl, rfl⟩ := trodVars_none hV
  obtain ⟨a0, n0, c0, rfl⟩ := okWide_slice Tryz.underlying52 (hval 0 52 v0 rfl rfl)
  have k0 := h0
  have lt0 : ∀ x ∈ p0, x.block < W.heap.size := by obtain ⟨m, hm⟩ := k0; exact DataW.trod_lt m _ _ _ hm
  obtain ⟨z0, w0⟩ : ∃ xs : List Mq, Ms W a0 n0 (xs.map Mq.m) ∧ (∀ x ∈ xs, wfQ x) ∧ n0 ≤ c0 ∧ c0 ≤ 9223372036854775807 := by
    obtain ⟨fuel, hf⟩ := h0
    rcases open_mqs hf with hcs | ⟨x, l, c, ms, hcs, hl, hm, hM, hw⟩
    · simp [Value.cells] at hcs; obtain ⟨rfl, rfl, rfl⟩ := hcs; exact ⟨[], ⟨rfl, fun h => absurd h (Nat.lt_irrefl 0)⟩, by simp, Nat.le_refl _, by omega⟩
    · simp [Value.cells] at hcs; obtain ⟨rfl, rfl, rfl⟩ := hcs; exact ⟨ms, hM, hw, hl, by simpa [maxLen] using hm⟩
  clear hA0 hval0
  refine (walk a0 n0 c0 z0 W w0.1 w0.2.1 w0.2.2.1 w0.2.2.2).mono fun e W' ⟨he, bel⟩ => ?_
  subst he
  exact ⟨_, rfl, _, _, _, [], _, [], hW', trodAll_mk1 (shut_bool Tryz.underlying4 _), (trodAll_cons_mk (Below.trod laidOut (by kernel_rfl) (of_decide_eq_true (by kernel_rfl)) k0 bel lt0) trodAll_mk0), rfl, bel.frame _, fun h => by cases h⟩

theorem over : Rows.stateKeysRow.holds Tryz.pinned (OpenSpec.ofChange Rows.stateKeysSpec) :=
  OpenClaim.holds_of_wide 12 Tryz.f12 rfl rfl rfl rfl rfl rfl rfl ⟨rfl, rfl, rfl, rfl, rfl⟩ rfl rfl rfl rfl rfl (by kernel_rfl) Tryz.func12 (by kernel_rfl)
    (of_decide_eq_true (by kernel_rfl)) (by unfold Func.isWrapper; first | (rw [if_pos (by decide +kernel)]; kernel_rfl) | (rw [if_neg (by decide +kernel)]; exact ⟨rfl, rfl⟩))
    (fun os started H enc _ => lifted os started H enc)

theorem proved : Rows.StateKeysSaid := over
#print axioms proved
end Go.Proofs.YtgglokfpafbmeaaGreat.stateKeys
