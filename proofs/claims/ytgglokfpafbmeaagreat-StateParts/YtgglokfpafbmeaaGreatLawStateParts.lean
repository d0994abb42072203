/- The statement StateParts: changes at once, or in parts, are one, for all changes and all parts. -/
import Derived.Test.YtgglokfpafbmeaaGreatStaG
import Derived.Test.YtgglokfpafbmeaaGreatKeyC
import Derived.Test.YtgglokfpafbmeaaGreatBeg7
import Derived.Test.YtgglokfpafbmeaaGreatLawA
import Derived.Deep.LoopGhost
import Derived.Deep.CutBlock
import Derived.Deep.CutRange
namespace Go.Proofs.YtgglokfpafbmeaaGreat.stateParts
open Go.ChangeShapes Go.WideShapes Go.ChangeAt Go.RowKit Go.MapKept Go.ChangeMaps

theorem len6 (x : Int) : ∃ (r : Int) (i : Nat), x.tmod 6 = r ∧ -6 < r ∧ r < 6 ∧ (r + 6) % 6 = (i : Int) ∧ i < 6 := by
  obtain ⟨r, i, h1, h2, h3, h4, h5⟩ := placeK x 6 (by omega)
  exact ⟨r, i, h1, by omega, by omega, h4, h5⟩

/-- What is held while the second state is told part by part: the first state, the second one behind t changes, what is left of the row of changes. -/
structure Hd (w W : World) (E1 E2 : Nat → Prop) (s1 v1 l1 d1 s2 v2 l2 d2 : Nat) (L : List Mq) (n t : Nat) (pa : Option Addr) : Prop where
  sa : Sg W E1 s1 v1 l1 d1 (runQ ab0 L) n
  sb : Sg W E2 s2 v2 l2 d2 (runQ ab0 (L.take t)) t
  ms : Ms W pa (n - t) ((L.drop t).map Mq.m)
  dj : ∀ k, E1 k → ¬ E2 k
  p : ∀ q, pa = some q → ¬ E2 q.block ∧ q.spot = none
  o : ∀ k, W.heap.size ≤ k → E2 k
  wE : ∀ k, E2 k → w.heap.size ≤ k
  bc : Below w.heap.size w W
section
variable {w W W' : World} {E1 E2 : Nat → Prop} {s1 v1 l1 d1 s2 v2 l2 d2 : Nat} {L : List Mq} {n t : Nat} {pa : Option Addr}
theorem Hd.later (h : Hd w W E1 E2 s1 v1 l1 d1 s2 v2 l2 d2 L n t pa) (hb : Below W.heap.size W W') : Hd w W' E1 E2 s1 v1 l1 d1 s2 v2 l2 d2 L n t pa :=
  ⟨h.sa.later hb, h.sb.later hb, h.ms.later hb (Nat.le_refl _), h.dj, h.p, fun k hk => h.o k (Nat.le_trans hb.size hk), h.wE, h.bc.trans (hb.mono h.bc.size)⟩
/-- The second state is told j changes more. -/
theorem Hd.step (h : Hd w W E1 E2 s1 v1 l1 d1 s2 v2 l2 d2 L n t pa) (hL : L.length = n) (hn : n ≤ 30) (ht : t ≤ n) (hmay : ∀ x ∈ L, mayB x.m = true) (cc : Nat) (hcc : n - t ≤ cc) (j : Nat) (hj : j ≤ n - t) (x : Option Addr) (hx : j < cc → x = pa.map (fun q => ⟨q.block, q.off + j * 6, none⟩)) (hxb : ∀ q, x = some q → ∃ p, pa = some p ∧ p.block = q.block ∧ q.spot = none) :
    Calls Tryz.prog 25 #[.pointer (some ⟨s2, 0, none⟩), .slice pa j cc] W fun e w' => e = .returned (.int .i64 0) ∧ Hid (Hd w w' E1 E2 s1 v1 l1 d1 s2 v2 l2 d2 L n (t + j) x) := by
  have hm := h.ms.take j hj
  rw [← List.map_take] at hm
  have hmem : ∀ y ∈ (L.drop t).take j, y ∈ L := fun y hy => List.mem_of_mem_drop (List.mem_of_mem_take hy)
  have hlen : ∀ k, ((runQ ab0 (L.take t)).L k).length ≤ 30 := fun k => by
    have := runQ_len k (L.take t) ab0
    rw [List.length_take] at this
    have e0 : (ab0.L k).length = 0 := rfl
    omega
  refine (h.sb.few h.o pa j cc ((L.drop t).take j) hm (fun b o e => by subst e; exact (h.p _ rfl).1) (fun y hy => hmay y (hmem y hy)) 30 hlen (by omega)).mono ?_
  rintro e w' ⟨r1, r2, r3⟩
  have e1 : runQ (runQ ab0 (L.take t)) ((L.drop t).take j) = runQ ab0 (L.take (t + j)) := by
    rw [← runQ_app, ← List.take_add]
  rw [e1] at r2
  have hE : ∀ q, pa = some q → ¬ E2 q.block := fun q e => (h.p q e).1
  have hmt : Ms w' pa (n - t) ((L.drop t).map Mq.m) := Ms.tch h.ms r3 (fun b o e => by subst e; exact hE _ rfl)
  have hmd := hmt.drop (x := x) j hj (fun hl => hx (by omega))
  rw [← List.map_drop, List.drop_drop] at hmd
  have e2 : n - t - j = n - (t + j) := by omega
  rw [e2] at hmd
  refine ⟨r1, h.sa.tch r3 (fun k h1 _ => h.dj k h1), r2, hmd, h.dj, fun q e => ?_, fun k hk => h.o k (Nat.le_trans r3.size hk), h.wE, h.bc.trans (r3.below (fun k hk e => by have := h.wE k e; omega) h.bc.size)⟩
  obtain ⟨p, e3, e4, e5⟩ := hxb q e
  rw [← e4]
  exact ⟨hE p e3, e5⟩
/-- Nothing more is told. -/
theorem Hd.last (h : Hd w W E1 E2 s1 v1 l1 d1 s2 v2 l2 d2 L n n pa) (hL : L.length = n) (hn : n ≤ 30) :
    Calls Tryz.prog 25 #[.pointer (some ⟨s2, 0, none⟩), .slice none 0 0] W fun e w' => e = .returned (.int .i64 0) ∧ Hid (Calls Tryz.prog 39 #[.pointer (some ⟨s1, 0, none⟩), .pointer (some ⟨s2, 0, none⟩)] w' fun e w'' => e = .returned (.bool true) ∧ Hid (Below w.heap.size w w'')) := by
  have eT : L.take n = L := List.take_of_length_le (by omega)
  have hlen : ∀ k, ((runQ ab0 (L.take n)).L k).length ≤ 30 := fun k => by
    have := runQ_len k (L.take n) ab0
    rw [List.length_take] at this
    have e0 : (ab0.L k).length = 0 := rfl
    omega
  refine (h.sb.few h.o none 0 0 [] ⟨rfl, fun e => absurd e (Nat.lt_irrefl _)⟩ (fun b o e => by cases e) (fun y hy => by cases hy) 30 hlen (by omega)).mono ?_
  rintro e w' ⟨r1, r2, r3⟩
  refine ⟨r1, ?_⟩
  have h2 : Sg w' E2 s2 v2 l2 d2 (runQ ab0 L) n := by
    have := r2
    rw [eT] at this
    exact this
  refine Calls.mono ((h.sa.tch r3 (fun k h1 _ => h.dj k h1)).same h2 (by omega) (by omega)) ?_
  rintro e w'' ⟨q1, q2⟩
  exact ⟨q1, (h.bc.trans (r3.below (fun k hk e => by have := h.wE k e; omega) h.bc.size)).trans (q2.mono (Nat.le_trans h.bc.size r3.size))⟩
end

set_option maxRecDepth 100000 in
set_option maxHeartbeats 8000000 in
theorem walk (pa : Option Addr) (c cc : Nat) (xs : List Mq) (a1 : Option Addr) (n1 c1 : Nat) (z1 : List Int) (w : World) (hP : Ms w pa c (xs.map Mq.m)) (_hw : ∀ x ∈ xs, wfQ x) (_hcc : c ≤ cc) (_h63 : cc ≤ 9223372036854775807) (hR : Row .i64 w a1 n1 c1 z1) :
    Calls Tryz.prog 13 #[.slice pa c cc, .slice a1 n1 c1] w fun e w' => e = .returned (.bool true) ∧ Below w.heap.size w w' := by
  have HR := hide hR
  have hn1 : n1 ≤ 9223372036854775807 := Nat.le_trans hR.2.1 hR.2.2.1
  have HP := hide hP
  have HXL : Hid (xs.length = c) := by have := hP.1; rw [List.length_map] at this; exact this
  clear hP hR
  go_enter Tryz.func13, Tryz.ntmps13
  go_wp2_with fail
  refine (begun7_true _).mono ?_
  rintro e w1 ⟨rfl, hb1⟩
  have HB1 := hide hb1
  have HP1 := hide (HP.out.later hb1 (Nat.le_refl _))
  clear hb1
  go_upto_block 0 with fail
  go_cut [6, 7] from 15 to 36 (fun l _ wc => Hid (∃ t, t ≤ 30 ∧ OwnM wc w1.heap.size l ((goodQ xs t).map Mq.m) ∧ Below w1.heap.size w1 wc))
  case first =>
    go_wp2_with fail
    go_loopg [6, 7] 30 (fun gm lv ix wr => ∃ t : Nat, gm = 30 - t ∧ t ≤ c ∧ t ≤ 30 ∧ ix = .int .i64 t ∧ Hid (OwnM wr w1.heap.size lv ((goodQ xs t).map Mq.m) ∧ Below w1.heap.size w1 wr))
    case atStart => exact ⟨0, rfl, by omega, by omega, rfl, OwnM.nil _ _, Below.refl _ _⟩
    case round =>
      obtain ⟨t, rfl, ht, ht30, rfl, HO⟩ := hrel
      by_cases hin : t < c ∧ t < 30
      · obtain ⟨hlt, hlt30⟩ := hin
        obtain ⟨x, hx⟩ : ∃ x, xs[t]? = some x := ⟨_, List.getElem?_eq_getElem (by rw [HXL.out]; exact hlt)⟩
        obtain ⟨b, o, rfl, z0, z1', z2, z3, z4, z5⟩ := (HP1.out.later HO.out.2 (Nat.le_refl _)).atQ hx
        have HMS : Hid (∀ W, Below wr.heap.size wr W → W.cell? ⟨b, o + t * 6, none⟩ = some (.int .i64 x.c) ∧ W.cell? ⟨b, o + t * 6 + 1, none⟩ = some (.int .i64 x.k.g) ∧ W.cell? ⟨b, o + t * 6 + 2, none⟩ = some (.int .i64 x.k.n) ∧ W.cell? ⟨b, o + t * 6 + 3, none⟩ = some (.int .i64 x.k.i) ∧ W.cell? ⟨b, o + t * 6 + 4, none⟩ = some (.int .i64 x.f) ∧ W.cell? ⟨b, o + t * 6 + 5, none⟩ = some (.int .i64 x.v)) := fun W hW => by
          obtain ⟨b', o', e, y⟩ := ((HP1.out.later HO.out.2 (Nat.le_refl _)).later hW (Nat.le_refl _)).atQ hx
          obtain ⟨rfl, rfl⟩ : b = b' ∧ o = o' := by simpa using e
          exact y
        have HT := hide (goodQ_next hx)
        obtain ⟨MB, HMB⟩ : ∃ y, Hid (y = mayB x.m) := ⟨_, rfl⟩
        have CM : Hid (∀ W, Calls Tryz.prog 42 #[.agg #[.int .i64 x.c, .int .i64 x.k.g, .int .i64 x.k.n, .int .i64 x.k.i, .int .i64 x.f, .int .i64 x.v]] W fun e w' => e = .returned (.bool MB) ∧ Below W.heap.size W w') := fun W => by rw [HMB.out]; exact refMay_any x.m W
        rw [← HMB.out] at HT
        have HLEN : Hid (((goodQ xs t).map Mq.m).length ≤ 1000000) := by have := goodQ_len xs t; show _ ≤ _; rw [List.length_map]; omega
        clear hx HMB
        go_wp2_with fail
        refine (CM.out _).mono ?_
        rintro e w2 ⟨rfl, hb2⟩
        have HO2 := hide (HO.out.1.later hb2)
        have HB2 := hide (HO.out.2.trans (hb2.mono HO.out.2.size))
        clear z0 z1' z2 z3 z4 z5
        obtain ⟨z0, z1', z2, z3, z4, z5⟩ := HMS.out w2 hb2
        clear hb2 HMS CM HO
        cases MB with
        | true =>
          have hbA := below_alloc w2 (mtObj x.m) w2.heap.size (Nat.le_refl _)
          have ho := And.intro (HB2.out.trans (hbA.mono HB2.out.size)) (HO2.out.later hbA)
          have hqn := heap_alloc_new w2 (mtObj x.m)
          have hn1' : (mtObj x.m) = .cells #[.int .i64 x.c, .int .i64 x.k.g, .int .i64 x.k.n, .int .i64 x.k.i, .int .i64 x.f, .int .i64 x.v] 61 := rfl
          rw [hn1'] at ho hqn
          have HOO := hide ho
          have HQN := hide hqn
          clear ho hqn hbA hn1' HO2 HB2
          go_wp2_with (at_builtin; refine wpList_appM rfl (.tmp 30) (.tmp 35) rfl w1.heap.size _ _ rfl HOO.out.2 w2.heap.size x.m rfl HQN.out HLEN.out HOO.out.1.size ?_)
          intro v3 w3 ho3 hg3
          have HN : Hid (OwnM w3 w1.heap.size v3 ((goodQ xs (t + 1)).map Mq.m) ∧ Below w1.heap.size w1 w3) := ⟨by rw [HT.out]; simpa using ho3, HOO.out.1.grown hg3 HOO.out.1.size (fun k hk => (HOO.out.2.lt k hk).1)⟩
          clear ho3 hg3 z0 z1' z2 z3 z4 z5 HOO HQN HT
          go_wp2
          go_roundg (30 - (t + 1))
          case measure => omega
          case rel => exact ⟨t + 1, rfl, by omega, by omega, by simp, HN⟩
        | false =>
          have HN : Hid (OwnM w2 w1.heap.size u6 ((goodQ xs (t + 1)).map Mq.m) ∧ Below w1.heap.size w1 w2) := ⟨by rw [HT.out]; simpa using HO2.out, HB2.out⟩
          clear z0 z1' z2 z3 z4 z5 HO2 HB2 HT
          go_wp2
          go_roundg (30 - (t + 1))
          case measure => omega
          case rel => exact ⟨t + 1, rfl, by omega, by omega, by simp, HN⟩
      · have hcs : (¬ t < c) ∨ (t < c ∧ ¬ t < 30) := by omega
        clear hin
        rcases hcs with hh | ⟨hh, hh2⟩
        all_goals
          go_wp2_with fail
          go_meet
          case rel => exact ⟨t, ht30, HO.out⟩
  case rest =>
    obtain ⟨t, ht30, hO, hbc⟩ := hcut.out
    obtain ⟨L, hL⟩ : ∃ L, goodQ xs t = L := ⟨_, rfl⟩
    have HMAY : Hid (∀ x ∈ L, mayB x.m = true) := by rw [← hL]; exact goodQ_may xs t
    have hLn : L.length ≤ 30 := by rw [← hL]; have := goodQ_len xs t; omega
    rw [hL] at hO
    have hlt := hO.lt
    obtain ⟨qa, qc, rfl, hM⟩ := hO.ms
    have HQC : Hid (L.length ≤ qc ∧ (∀ q, qa = some q → q.spot = none)) := by
      rcases hO.2 with ⟨e1, e2⟩ | ⟨g, cap, cur, e1, _, _, e4, _⟩
      · simp at e1
        obtain ⟨rfl, e, rfl⟩ := e1
        exact ⟨by simp [e], fun q e => by cases e⟩
      · simp at e1
        obtain ⟨rfl, rfl⟩ := e1
        exact ⟨by simpa using e4, fun q e => by cases e; rfl⟩
    have HQB : Hid (∀ q, qa = some q → q.block < wc.heap.size) := fun q e => (hlt q.block (by subst e; rfl)).2
    obtain ⟨n, hn⟩ : ∃ n, L.length = n := ⟨_, rfl⟩
    rw [List.length_map, hn] at hM ⊢
    rw [hn] at HQC hLn
    have HLN := hide hn
    have HMS := hide hM
    have HBC := hide (HB1.out.trans (hbc.mono HB1.out.size))
    clear hO hbc hcut hL hlt hM hn HB1 HP1 HP
    go_wp2_with fail
    refine (stateNew wc).mono ?_
    rintro e wA ⟨rfl, rfl⟩
    go_wp2_with fail
    refine (stateNew (newSt wc)).mono ?_
    rintro e wB ⟨rfl, rfl⟩
    have zA := newSt_size wc
    have zB := newSt_size (newSt wc)
    have hbA := newSt_below wc
    have hbB := newSt_below (newSt wc)
    have SA : Sg (newSt (newSt wc)) (fun k => (wc.heap.size ≤ k ∧ k < (newSt wc).heap.size) ∨ (newSt (newSt wc)).heap.size ≤ k) (wc.heap.size + 1 + 1 + 1) wc.heap.size (wc.heap.size + 1) (wc.heap.size + 1 + 1) ab0 0 := ((Sg.new wc).wide (fun k h1 h2 => Or.inl ⟨h1, h2⟩)).later hbB
    have SB : Sg (newSt (newSt wc)) (fun k => (newSt wc).heap.size ≤ k ∧ k < (newSt (newSt wc)).heap.size) ((newSt wc).heap.size + 1 + 1 + 1) (newSt wc).heap.size ((newSt wc).heap.size + 1) ((newSt wc).heap.size + 1 + 1) ab0 0 := (Sg.new (newSt wc)).wide (fun k h1 h2 => ⟨h1, h2⟩)
    have hMB := HMS.out.later (hbA.trans (hbB.mono hbA.size)) (Nat.le_refl _)
    have HD1 : Hid (Calls Tryz.prog 25 #[.pointer (some ⟨wc.heap.size + 1 + 1 + 1, 0, none⟩), .slice qa n qc] (newSt (newSt wc)) fun e w' => e = .returned (.int .i64 0) ∧ Hid (Hd w w' (fun k => ((wc.heap.size ≤ k ∧ k < (newSt wc).heap.size) ∨ (newSt (newSt wc)).heap.size ≤ k) ∧ k < w'.heap.size) (fun k => ((newSt wc).heap.size ≤ k ∧ k < (newSt (newSt wc)).heap.size) ∨ w'.heap.size ≤ k) (wc.heap.size + 1 + 1 + 1) wc.heap.size (wc.heap.size + 1) (wc.heap.size + 1 + 1) ((newSt wc).heap.size + 1 + 1 + 1) (newSt wc).heap.size ((newSt wc).heap.size + 1) ((newSt wc).heap.size + 1 + 1) L n 0 qa)) := by
      refine Calls.mono (SA.few (fun k hk => Or.inr hk) qa n qc L hMB (fun b o e h => by have := HQB.out _ e; simp at this; rcases h with h | h <;> omega) HMAY.out 0 (fun k => Nat.le_refl _) (by omega)) ?_
      rintro e w' ⟨r1, r2, r3⟩
      rw [Nat.zero_add] at r2
      have zc := HBC.out.size
      have z3 := r3.size
      refine ⟨r1, r2.wide (fun k h1 h2 => ⟨h1, h2⟩), (SB.tch r3 (fun k h1 _ h2 => by rcases h2 with h2 | h2 <;> omega)).wide (fun k h1 _ => Or.inl h1), ?_, fun k h1 h2 => by rcases h2 with h2 | h2 <;> omega, fun q e => ?_, fun k hk => Or.inr hk, fun k h1 => by rcases h1 with h1 | h1 <;> omega, ?_⟩
      · exact Ms.tch hMB r3 (fun b o e h => by have := HQB.out _ e; simp at this; rcases h with h | h <;> omega)
      · have := HQB.out q e
        exact ⟨fun h => by rcases h with h | h <;> omega, HQC.out.2 q e⟩
      · exact (HBC.out.trans ((hbA.trans (hbB.mono hbA.size)).mono HBC.out.size)).trans (r3.below (fun k hk h => by rcases h with h | h <;> omega) (by omega))
    clear SA SB hMB zA zB hbA hbB
    generalize newSt (newSt wc) = wB at *
    generalize (newSt wc).heap.size + 1 + 1 + 1 = s2 at *
    generalize (newSt wc).heap.size + 1 + 1 = d2 at *
    generalize (newSt wc).heap.size + 1 = l2 at *
    generalize (newSt wc).heap.size = v2 at *
    generalize wc.heap.size + 1 + 1 + 1 = s1 at *
    generalize wc.heap.size + 1 + 1 = d1 at *
    generalize wc.heap.size + 1 = l1 at *
    generalize hv1 : wc.heap.size = v1 at *
    clear hv1
    go_wp2_with fail
    refine HD1.out.mono ?_
    rintro e wD ⟨rfl, HH0⟩
    have HQS := hide HQC.out.1
    generalize (fun k => ((v1 ≤ k ∧ k < v2) ∨ wB.heap.size ≤ k) ∧ k < wD.heap.size) = E1 at *
    generalize (fun k => (v2 ≤ k ∧ k < wB.heap.size) ∨ wD.heap.size ≤ k) = E2 at *
    clear HD1 HQB HQC HMS HBC
    go_wp2_with fail
    go_loopg [6, 10] n (fun gm lv ix wr => ∃ (t m i qc : Nat) (qa : Option Addr), t + m = n ∧ m = gm ∧ m ≤ qc ∧ i ≤ t ∧ lv = .slice qa m qc ∧ ix = .int .i64 i ∧ Hid (Hd w wr E1 E2 s1 v1 l1 d1 s2 v2 l2 d2 L n t qa))
    case atStart => exact ⟨0, n, 0, qc, qa, by omega, rfl, HQS.out, by omega, rfl, rfl, HH0⟩
    case round =>
      clear HH0 HQS
      obtain ⟨t, m, i, qc, qa, htm, rfl, hqc, hit, rfl, rfl, HH⟩ := hrel
      by_cases hm : 0 < m
      · have HST : Hid (∀ j x, j ≤ m → (j < qc → x = qa.map (fun q => (⟨q.block, q.off + j * 6, none⟩ : Addr))) → (∀ q, x = some q → ∃ p, qa = some p ∧ p.block = q.block ∧ q.spot = none) → Calls Tryz.prog 25 #[.pointer (some ⟨s2, 0, none⟩), .slice qa j qc] wr fun e w' => e = .returned (.int .i64 0) ∧ Hid (Hd w w' E1 E2 s1 v1 l1 d1 s2 v2 l2 d2 L n (t + j) x)) := fun j x hj hx hxb =>
          HH.out.step HLN.out hLn (by omega) HMAY.out qc (by omega) j (by omega) x hx hxb
        have HSP : Hid (∀ q, qa = some q → q.spot = none) := fun q e => (HH.out.p q e).2
        by_cases hi : i < n1
        · obtain ⟨b1, o1, e1, hq1⟩ := HR.out.2.2.2.2.1 (by omega)
          subst e1
          have q1 := hq1 i hi
          have p1 : wr.cell? ⟨b1, o1 + i, none⟩ = some (.int .i64 (z1.getD i 0)) := (HH.out.bc.cell (World.block_lt_of_cell? w _ q1)).trans q1
          obtain ⟨r, j, er, br, br', sr, hj6⟩ := len6 (z1.getD i 0)
          generalize z1.getD i 0 = y at *
          obtain ⟨k, hk⟩ : ∃ k, min m (1 + j) = k := ⟨_, rfl⟩
          have hkI : min (m : Int) (1 + (j : Int)) = (k : Int) := by omega
          have hk1 : 1 ≤ k := by omega
          have hkm : k ≤ m := by omega
          have hup := run_uptoM qa m qc k (by omega)
          obtain ⟨x, hx1, hx2, hfr⟩ := run_fromM qa m qc k hkm hqc HSP.out
          have HC := hide (HST.out k x hkm hx1 hx2)
          have hmk : ((m - k : Nat) : Int) = (m : Int) - k := by omega
          clear hq1 q1 hk HST HSP HH hx1 hx2
          go_wp2_with fail
          refine HC.out.mono ?_
          rintro e w2 ⟨rfl, HN⟩
          clear HC p1
          go_wp2
          go_roundg (m - k)
          case measure => omega
          case rel => exact ⟨t + k, m - k, i + 1, qc - k, x, by omega, rfl, by omega, by omega, rfl, by simp, HN⟩
        · have hup := run_uptoM qa m qc m (by omega)
          obtain ⟨x, hx1, hx2, hfr⟩ := run_fromM qa m qc m (Nat.le_refl _) hqc HSP.out
          have HC := hide (HST.out m x (Nat.le_refl _) hx1 hx2)
          clear HST HSP HH hx1 hx2
          go_wp2_with fail
          refine HC.out.mono ?_
          rintro e w2 ⟨rfl, HN⟩
          clear HC
          go_wp2
          go_roundg 0
          case measure => omega
          case rel => exact ⟨t + m, 0, i + 1, qc - m, x, by omega, rfl, by omega, by omega, rfl, by simp, HN⟩
      · obtain rfl : m = 0 := by omega
        obtain rfl : t = n := by omega
        have eT : L.take t = L := List.take_of_length_le (by rw [HLN.out]; exact Nat.le_refl _)
        have hb := HH.out.sb
        rw [eT] at hb
        have HQ1 := hide (HH.out.sa.same hb (by omega) (by omega))
        have HQ2 : Hid (∀ W, Below wr.heap.size wr W → Calls Tryz.prog 25 #[.pointer (some ⟨s2, 0, none⟩), .slice none 0 0] W fun e w' => e = .returned (.int .i64 0) ∧ Hid (Calls Tryz.prog 39 #[.pointer (some ⟨s1, 0, none⟩), .pointer (some ⟨s2, 0, none⟩)] w' fun e w'' => e = .returned (.bool true) ∧ Hid (Below w.heap.size w w''))) := fun W hW => by
          exact (HH.out.later hW).last HLN.out hLn
        clear HH
        go_wp2_with fail
        refine HQ1.out.mono ?_
        rintro e w5 ⟨rfl, hb5⟩
        have HQ3 := hide (HQ2.out w5 hb5)
        clear HQ1 HQ2 hb5
        go_wp2_with fail
        refine HQ3.out.mono ?_
        rintro e w6 ⟨rfl, HQ4⟩
        clear HQ3
        go_wp2_with fail
        refine HQ4.out.mono ?_
        rintro e w7 ⟨rfl, HB7⟩
        clear HQ4
        go_wp2
        go_ret
        exact ⟨by simp, HB7.out⟩

theorem own : ownKnob Tryz.prog.godebug = none := by kernel_rfl
theorem laidOut : laidOutB Tryz.prog = true := by kernel_rfl

set_option maxRecDepth 100000 in
theorem lifted (os : Os) (started : os.Started) (H : Type) (enc : TypeId × Value → H) :
    ReturnsInHanded {} Tryz.checked os 13 .any (Rows.statePartsSpec.pre6 enc Tryz.prog Tryz.f13 Rows.statePartsRow.domain false) (Rows.statePartsSpec.post enc Tryz.prog Tryz.f13 false true false false) := by
  refine returnsInHanded_of_change (C := Tryz.checked) own started (by kernel_rfl) Tryz.func13
    (ChangeSpec.witness6 (enc := enc) (C := Tryz.checked) false ⟨#[], #[.slice none 0 0, .slice none 0 0], []⟩ 8 (by kernel_rfl) (by kernel_rfl) (by kernel_rfl) (by kernel_rfl)) ?_
  intro W base args ds gs before hval0 hW hcnd _
  have hval : ∀ (j : Nat) t v, Tryz.f13.params[j]? = some t → args[j]? = some v → Value.okWide Tryz.prog W .any base t v := hval0
  have hW' := hW
  obtain ⟨p, q, hA0, hV, rfl, hfz, hnd⟩ := hW
  have hA : DataW.TrodAll enc Tryz.prog W 0 (fun _ => true) true Tryz.f13.params.toList args.toList ds p := hA0
  rw [Tryz.params13] at hA hval
  obtain ⟨v0, vs0, d0, ds0, p0, q0, hargs, rfl, rfl, h0, r0⟩ := trodAll_cons hA
  obtain ⟨v1, vs1, d1, ds1, p1, q1, rfl, rfl, rfl, h1, r1⟩ := trodAll_cons r0
  obtain ⟨rfl, rfl, rfl⟩ := trodAll_nil r1
  obtain rfl : args = #[v0, v1] := by cases args; simp_all
  obtain ⟨rfl, rfl⟩ := trodVars_none hV
  obtain ⟨a0, n0, c0, rfl⟩ := okWide_slice Tryz.underlying52 (hval 0 52 v0 rfl rfl)
  have k0 := h0
  have lt0 : ∀ x ∈ p0, x.block < W.heap.size := by obtain ⟨m, hm⟩ := k0; exact DataW.trod_lt m _ _ _ hm
  obtain ⟨z0, w0⟩ : ∃ xs : List Mq, Ms W a0 n0 (xs.map Mq.m) ∧ (∀ x ∈ xs, wfQ x) ∧ n0 ≤ c0 ∧ c0 ≤ 9223372036854775807 := by
    obtain ⟨fuel, hf⟩ := h0
    rcases open_mqs hf with hcs | ⟨x, l, c, ms, hcs, hl, hm, hM, hw⟩
    · simp [Value.cells] at hcs; obtain ⟨rfl, rfl, rfl⟩ := hcs; exact ⟨[], ⟨rfl, fun h => absurd h (Nat.lt_irrefl 0)⟩, by simp, Nat.le_refl _, by omega⟩
    · simp [Value.cells] at hcs; obtain ⟨rfl, rfl, rfl⟩ := hcs; exact ⟨ms, hM, hw, hl, by simpa [maxLen] using hm⟩
  obtain ⟨a1, n1, c1, rfl⟩ := okWide_slice Tryz.underlying88 (hval 1 88 v1 rfl rfl)
  have k1 := h1
  have lt1 : ∀ x ∈ p1, x.block < W.heap.size := by obtain ⟨m, hm⟩ := k1; exact DataW.trod_lt m _ _ _ hm
  obtain ⟨z1, w1⟩ : ∃ zs, Row .i64 W a1 n1 c1 zs := by
    obtain ⟨fuel, hf⟩ := h1
    rcases open_ints Tryz.underlying88 Tryz.underlying3 (by kernel_rfl) hf with ⟨hcs, _⟩ | ⟨x, l, c, zs, hcs, _, hl, hm, hz, _, hcell, hwz⟩
    · simp [Value.cells] at hcs; obtain ⟨rfl, rfl, rfl⟩ := hcs; exact ⟨[], row_none _ _⟩
    · simp [Value.cells] at hcs; obtain ⟨rfl, rfl, rfl⟩ := hcs; exact ⟨_, row_some hl hm (by simpa using hz) hcell hwz⟩
  clear hA0 hval0
  refine (walk a0 n0 c0 z0 a1 n1 c1 z1 W w0.1 w0.2.1 w0.2.2.1 w0.2.2.2 w1).mono fun e W' ⟨he, bel⟩ => ?_
  subst he
  exact ⟨_, rfl, _, _, _, [], _, [], hW', trodAll_mk1 (shut_bool Tryz.underlying4 _), (trodAll_cons_mk (Below.trod laidOut (by kernel_rfl) (of_decide_eq_true (by kernel_rfl)) k0 bel lt0) (trodAll_cons_mk (Below.trod laidOut (by kernel_rfl) (of_decide_eq_true (by kernel_rfl)) k1 bel lt1) trodAll_mk0)), rfl, bel.frame _, fun h => by cases h⟩

theorem over : Rows.statePartsRow.holds Tryz.pinned (OpenSpec.ofChange Rows.statePartsSpec) :=
  OpenClaim.holds_of_wide 13 Tryz.f13 rfl rfl rfl rfl rfl rfl rfl ⟨rfl, rfl, rfl, rfl, rfl⟩ rfl rfl rfl rfl rfl (by kernel_rfl) Tryz.func13 (by kernel_rfl)
    (of_decide_eq_true (by kernel_rfl)) (by unfold Func.isWrapper; first | (rw [if_pos (by decide +kernel)]; kernel_rfl) | (rw [if_neg (by decide +kernel)]; exact ⟨rfl, rfl⟩))
    (fun os started H enc _ => lifted os started H enc)

theorem proved : Rows.StatePartsSaid := over
#print axioms proved
end Go.Proofs.YtgglokfpafbmeaaGreat.stateParts
