/- The statement StateAllNone: of changes of which one may not be none is done, for all changes, places and changes that may not be. -/
import Derived.Test.YtgglokfpafbmeaaGreatStaG
import Derived.Test.YtgglokfpafbmeaaGreatKeyC
import Derived.Test.YtgglokfpafbmeaaGreatBeg7
import Derived.Test.YtgglokfpafbmeaaGreatLawA
import Derived.Deep.LoopGhost
import Derived.Deep.CutBlock
import Derived.Deep.CutRange
namespace Go.Proofs.YtgglokfpafbmeaaGreat.stateAllNone
open Go.ChangeShapes Go.WideShapes Go.ChangeAt Go.RowKit Go.MapKept Go.ChangeMaps

theorem may_nine (g n i f v : Int) : mayB ⟨9, g, n, i, f, v⟩ = false := by simp [mayB, kindB]
theorem mt_set0 {w : World} {q : Nat} {m : Mt} (h : w.heap[q]? = some (mtObj m)) (x : Int) : (w.setCell ⟨q, 0, none⟩ (.int .i64 x)).heap[q]? = some (mtObj ⟨x, m.g, m.n, m.i, m.f, m.v⟩) ∧ Tch (fun k => k = q) w (w.setCell ⟨q, 0, none⟩ (.int .i64 x)) := by
  refine ⟨?_, (Tch.of (grown_setCell w q 0 (.int .i64 x))).mono (fun k _ e => Option.some.inj e)⟩
  obtain ⟨hlt, he⟩ := Array.getElem?_eq_some_iff.1 h
  simp [World.setCell, Array.getElem_modify, hlt, he, mtObj]

/-- An append that is run already, in a world that is known by name. -/
theorem step_ran_at {w w' : World} (w0 : World) {ops : Array Oper} {o : Oper} {a : Act} {K : Act → World → Prop} {Q : Exit → Act → World → Prop} {E : Prop} (hgd : o.guard = none) (s x : Operand) (t t' : TypeId)
    (ho : o.op = .call { callee := .builtin .append, args := #[s, x], argTypes := #[t, t'] }) (v v2 v' : Value) (hw : w = w0) (hs : a.eval s = v) (hx : a.eval x = v2)
    (hrun : ∀ ty, (Builtin.append_ #[t, t'] ty #[v, v2]).run Tryz.prog w0 = .ok v' w') (h : K (a.put o.dst v') w') :
    if Region.wanted o (yielded ops a.tmps) = true then Oper.wp Tryz.prog o a w K Q else E := by
  subst hw
  exact step_ran hgd s x t t' ho v v2 v' hs hx hrun h

/-- What is held: the box of the change that may not be, the row of changes that may. -/
structure Hd (w W : World) (q B : Nat) (b : Mt) (L : List Mq) (n : Nat) (qa : Option Addr) (qc : Nat) : Prop where
  k : W.heap[q]? = some (mtObj b)
  no : mayB b = false
  m : Ms W qa n (L.map Mq.m)
  z : qa = none → qc = 0
  qc : n ≤ qc
  sp : ∀ x, qa = some x → x.spot = none
  c : Below w.heap.size w W
theorem Hd.later {w W W' : World} {q B : Nat} {b : Mt} {L : List Mq} {n : Nat} {qa : Option Addr} {qc : Nat} (h : Hd w W q B b L n qa qc) (hb : Below W.heap.size W W') : Hd w W' q B b L n qa qc :=
  ⟨boxed_old h.k hb, h.no, h.m.later hb (Nat.le_refl _), h.z, h.qc, h.sp, h.c.trans (hb.mono h.c.size)⟩

set_option maxRecDepth 100000 in
set_option maxHeartbeats 8000000 in
theorem walk (pa : Option Addr) (c cc : Nat) (xs : List Mq) (at' : Int) (bad : Mq) (w : World) (hP : Ms w pa c (xs.map Mq.m)) (_hw : ∀ x ∈ xs, wfQ x) (_hcc : c ≤ cc) (_h63 : cc ≤ 9223372036854775807) (_wa : (Lit.int .i64 at').wf = true) (_wb : wfQ bad) :
    Calls Tryz.prog 10 #[.slice pa c cc, .int .i64 at', .agg #[.int .i64 bad.c, .int .i64 bad.k.g, .int .i64 bad.k.n, .int .i64 bad.k.i, .int .i64 bad.f, .int .i64 bad.v]] w fun e w' => e = .returned (.bool true) ∧ Below w.heap.size w w' := by
  have HP := hide hP
  have HXL : Hid (xs.length = c) := by have := hP.1; rw [List.length_map] at this; exact this
  have hwa := wf_i64 _wa
  have hbx := heap_alloc_new w (mtObj bad.m)
  have hbb := below_alloc w (mtObj bad.m) w.heap.size (Nat.le_refl _)
  have hn1 : (mtObj bad.m) = .cells #[.int .i64 bad.c, .int .i64 bad.k.g, .int .i64 bad.k.n, .int .i64 bad.k.i, .int .i64 bad.f, .int .i64 bad.v] 61 := rfl
  rw [hn1] at hbx hbb
  have HBX := hide (And.intro hbx hbb)
  clear hP _wa hbx hbb hn1
  go_enter Tryz.func10, Tryz.ntmps10
  go_wp2_with fail
  generalize w.alloc (.cells #[.int .i64 bad.c, .int .i64 bad.k.g, .int .i64 bad.k.n, .int .i64 bad.k.i, .int .i64 bad.f, .int .i64 bad.v] 61) = w0 at *
  refine (begun7_true _).mono ?_
  rintro e w1 ⟨rfl, hb1⟩
  have HB1 : Hid (Below w.heap.size w w1) := HBX.out.2.trans (hb1.mono HBX.out.2.size)
  have HQ1 : Hid (w1.heap[w.heap.size]? = some (mtObj bad.m)) := boxed_old HBX.out.1 hb1
  have HP1 := hide (HP.out.later HB1.out (Nat.le_refl _))
  clear hb1 HBX
  go_upto_block 0 with fail
  go_cut [8, 9] from 15 to 36 (fun l _ wc => Hid (∃ t, t ≤ 20 ∧ OwnM wc w1.heap.size l ((goodQ xs t).map Mq.m) ∧ Below w1.heap.size w1 wc))
  case first =>
    go_wp2_with fail
    go_loopg [8, 9] 20 (fun gm lv ix wr => ∃ t : Nat, gm = 20 - t ∧ t ≤ c ∧ t ≤ 20 ∧ ix = .int .i64 t ∧ Hid (OwnM wr w1.heap.size lv ((goodQ xs t).map Mq.m) ∧ Below w1.heap.size w1 wr))
    case atStart => exact ⟨0, rfl, by omega, by omega, rfl, OwnM.nil _ _, Below.refl _ _⟩
    case round =>
      obtain ⟨t, rfl, ht, htm, rfl, HO⟩ := hrel
      by_cases hin : t < c ∧ t < 20
      · obtain ⟨hlt, hltm⟩ := hin
        obtain ⟨x, hx⟩ : ∃ x, xs[t]? = some x := ⟨_, List.getElem?_eq_getElem (by rw [HXL.out]; exact hlt)⟩
        obtain ⟨b, o, rfl, z0, z1', z2, z3, z4, z5⟩ := (HP1.out.later HO.out.2 (Nat.le_refl _)).atQ hx
        have HMS : Hid (∀ W, Below wr.heap.size wr W → W.cell? ⟨b, o + t * 6, none⟩ = some (.int .i64 x.c) ∧ W.cell? ⟨b, o + t * 6 + 1, none⟩ = some (.int .i64 x.k.g) ∧ W.cell? ⟨b, o + t * 6 + 2, none⟩ = some (.int .i64 x.k.n) ∧ W.cell? ⟨b, o + t * 6 + 3, none⟩ = some (.int .i64 x.k.i) ∧ W.cell? ⟨b, o + t * 6 + 4, none⟩ = some (.int .i64 x.f) ∧ W.cell? ⟨b, o + t * 6 + 5, none⟩ = some (.int .i64 x.v)) := fun W hW => by
          obtain ⟨b', o', e, y⟩ := ((HP1.out.later HO.out.2 (Nat.le_refl _)).later hW (Nat.le_refl _)).atQ hx
          obtain ⟨rfl, rfl⟩ : b = b' ∧ o = o' := by simpa using e
          exact y
        have HT := hide (goodQ_next hx)
        obtain ⟨MB, HMB⟩ : ∃ y, Hid (y = mayB x.m) := ⟨_, rfl⟩
        have CM : Hid (∀ W, Calls Tryz.prog 42 #[.agg #[.int .i64 x.c, .int .i64 x.k.g, .int .i64 x.k.n, .int .i64 x.k.i, .int .i64 x.f, .int .i64 x.v]] W fun e w' => e = .returned (.bool MB) ∧ Below W.heap.size W w') := fun W => by rw [HMB.out]; exact refMay_any x.m W
        rw [← HMB.out] at HT
        have HLEN : Hid (((goodQ xs t).map Mq.m).length ≤ 1000000) := by have := goodQ_len xs t; show _ ≤ _; rw [List.length_map]; omega
        clear hx HMB
        go_wp2_with fail
        refine (CM.out _).mono ?_
        rintro e w2 ⟨rfl, hb2⟩
        have HO2 := hide (HO.out.1.later hb2)
        have HB2 := hide (HO.out.2.trans (hb2.mono HO.out.2.size))
        clear z0 z1' z2 z3 z4 z5
        obtain ⟨z0, z1', z2, z3, z4, z5⟩ := HMS.out w2 hb2
        clear hb2 HMS CM HO
        cases MB with
        | true =>
          have hbA := below_alloc w2 (mtObj x.m) w2.heap.size (Nat.le_refl _)
          have ho := And.intro (HB2.out.trans (hbA.mono HB2.out.size)) (HO2.out.later hbA)
          have hqn := heap_alloc_new w2 (mtObj x.m)
          have hn1' : (mtObj x.m) = .cells #[.int .i64 x.c, .int .i64 x.k.g, .int .i64 x.k.n, .int .i64 x.k.i, .int .i64 x.f, .int .i64 x.v] 61 := rfl
          rw [hn1'] at ho hqn
          have HOO := hide ho
          have HQN := hide hqn
          clear ho hqn hbA hn1' HO2 HB2
          go_wp2_with (at_builtin; refine wpList_appM rfl (.tmp 30) (.tmp 35) rfl w1.heap.size _ _ rfl HOO.out.2 w2.heap.size x.m rfl HQN.out HLEN.out HOO.out.1.size ?_)
          intro v3 w3 ho3 hg3
          have HN : Hid (OwnM w3 w1.heap.size v3 ((goodQ xs (t + 1)).map Mq.m) ∧ Below w1.heap.size w1 w3) := ⟨by rw [HT.out]; simpa using ho3, HOO.out.1.grown hg3 HOO.out.1.size (fun k hk => (HOO.out.2.lt k hk).1)⟩
          clear ho3 hg3 z0 z1' z2 z3 z4 z5 HOO HQN HT
          go_wp2
          go_roundg (20 - (t + 1))
          case measure => omega
          case rel => exact ⟨t + 1, rfl, by omega, by omega, by simp, HN⟩
        | false =>
          have HN : Hid (OwnM w2 w1.heap.size u8 ((goodQ xs (t + 1)).map Mq.m) ∧ Below w1.heap.size w1 w2) := ⟨by rw [HT.out]; simpa using HO2.out, HB2.out⟩
          clear z0 z1' z2 z3 z4 z5 HO2 HB2 HT
          go_wp2
          go_roundg (20 - (t + 1))
          case measure => omega
          case rel => exact ⟨t + 1, rfl, by omega, by omega, by simp, HN⟩
      · have hcs : (¬ t < c) ∨ (t < c ∧ ¬ t < 20) := by omega
        clear hin
        rcases hcs with hh | ⟨hh, hh2⟩
        all_goals
          go_wp2_with fail
          go_meet
          case rel => exact ⟨t, htm, HO.out⟩
  case rest =>
    obtain ⟨t, htm, hO, hbc⟩ := hcut.out
    obtain ⟨L, hL⟩ : ∃ L, goodQ xs t = L := ⟨_, rfl⟩
    have hLn : L.length ≤ 20 := by rw [← hL]; have := goodQ_len xs t; omega
    rw [hL] at hO
    have hlt := hO.lt
    have hQC : ∀ qa qc, u8 = .slice qa (L.map Mq.m).length qc → L.length ≤ qc ∧ (∀ x, qa = some x → x.spot = none) ∧ (qa = none → qc = 0) := fun qa qc e0 => by
      rcases hO.2 with ⟨e1, e2⟩ | ⟨g, cap, cur, e1, _, _, e4, _⟩
      · rw [e0] at e1
        simp at e1
        obtain ⟨rfl, e, rfl⟩ := e1
        exact ⟨by simp [e], fun q e => (by cases e), fun _ => rfl⟩
      · rw [e0] at e1
        simp at e1
        obtain ⟨rfl, rfl⟩ := e1
        exact ⟨by simpa using e4, fun q e => by cases e; rfl, fun e => by cases e⟩
    obtain ⟨qa, qc, e8, hM⟩ := hO.ms
    obtain ⟨q1, q2, q3⟩ := hQC qa qc e8
    subst e8
    obtain ⟨n, hn⟩ : ∃ n, L.length = n := ⟨_, rfl⟩
    rw [List.length_map, hn] at hM ⊢
    rw [hn] at hLn q1
    have HLN := hide hn
    have HH0 : Hid (∀ W, Below wc.heap.size wc W → W.heap[w.heap.size]? = some (mtObj bad.m) ∧ ∀ b W', mayB b = false → W'.heap[w.heap.size]? = some (mtObj b) → Tch (fun k => k = w.heap.size) W W' → Hd w W' w.heap.size w1.heap.size b L n qa qc) := fun W hW => by
      have hbw := HB1.out.trans (hbc.mono HB1.out.size)
      have hbW := hbw.trans (hW.mono hbw.size)
      refine ⟨boxed_old (boxed_old HQ1.out hbc) hW, fun b W' hb hk ht => ⟨hk, hb, Ms.tch (hM.later hW (Nat.le_refl _)) ht (fun b o e h => ?_), q3, q1, q2, hbW.trans (ht.below (fun k hk e => by omega) hbW.size)⟩⟩
      subst e
      have h1 := (hlt b (by simp [Value.ownBlock])).1
      have h2 := lt_of_heap HQ1.out
      omega
    have hm0 := mt_cells (HH0.out wc (Below.refl _ _)).1
    obtain ⟨x0, x1, x2, x3, x4, x5⟩ := hm0
    have hf0 : wc.frozen? ⟨w.heap.size, 0, none⟩ = false := by
      have := (HH0.out wc (Below.refl _ _)).1
      simp [World.frozen?, this, mtObj]
    obtain ⟨MB, HMB⟩ : ∃ y, Hid (y = mayB bad.m) := ⟨_, rfl⟩
    have CM : Hid (∀ W, Calls Tryz.prog 42 #[.agg #[.int .i64 bad.c, .int .i64 bad.k.g, .int .i64 bad.k.n, .int .i64 bad.k.i, .int .i64 bad.f, .int .i64 bad.v]] W fun e w' => e = .returned (.bool MB) ∧ Below W.heap.size W w') := fun W => by rw [HMB.out]; exact refMay_any bad.m W
    have hq1 := q1
    clear hO hbc hcut hL hlt hM hn HB1 HP1 HP HQ1 hQC q1 q2 q3
    generalize hqq : w.heap.size = q at *
    go_wp2_with fail
    refine (CM.out _).mono ?_
    rintro e w2 ⟨rfl, hb2⟩
    have HH2 := hide (HH0.out w2 hb2)
    obtain ⟨x0', x1', x2', x3', x4', x5'⟩ := mt_cells HH2.out.1
    have hf2 : w2.frozen? ⟨q, 0, none⟩ = false := by
      have := HH2.out.1
      simp [World.frozen?, this, mtObj]
    clear x0 x1 x2 x3 x4 x5 hf0 hb2 HH0 CM
    go_upto_if 38 with fail
    go_cut [8] from 37 to 39 (fun lv wx => lv = .slice qa n qc ∧ Hid (∃ b, Hd w wx q w1.heap.size b L n qa qc))
    case first =>
      cases MB with
      | true =>
        have HR : Hid (∃ b, Hd w (w2.setCell ⟨q, 0, none⟩ (.int .i64 9)) q w1.heap.size b L n qa qc) := by
          obtain ⟨h1, h2⟩ := mt_set0 HH2.out.1 9
          exact ⟨_, HH2.out.2 _ _ (may_nine _ _ _ _ _) h1 h2⟩
        clear HH2 HMB
        go_wp2
        go_meet
        case rel => exact ⟨rfl, HR⟩
      | false =>
        have HR : Hid (∃ b, Hd w w2 q w1.heap.size b L n qa qc) := ⟨_, HH2.out.2 bad.m w2 HMB.out.symm HH2.out.1 ⟨rfl, rfl, rfl, Nat.le_refl _, fun _ _ _ => rfl⟩⟩
        clear HH2 HMB x0' x1' x2' x3' x4' x5' hf2
        go_wp2
        go_meet
        case rel => exact ⟨rfl, HR⟩
    case rest =>
      obtain ⟨rfl, hr⟩ := hcut
      obtain ⟨b, hH⟩ := hr.out
      have HH := hide hH
      clear hr hH HH2 HMB x0' x1' x2' x3' x4' x5' hf2
      generalize wc = W3 at *
      obtain ⟨r, i, er, hr1, hr2, sr, hi⟩ := placeK at' (n + 1) (by omega)
      have er' : at'.tmod ((n : Int) + 1) = r := er
      have sr' : (r + (n : Int) + 1) % ((n : Int) + 1) = (i : Int) := by rw [Int.add_assoc]; exact sr
      have hin : i ≤ n := by omega
      have hrb : -((n : Int) + 1) < r ∧ r < (n : Int) + 1 := ⟨hr1, hr2⟩
      clear er sr hr1 hr2
      have hup := run_uptoM qa n qc i (by omega)
      obtain ⟨x, hx1, hx2, hfr⟩ := run_fromM qa n qc i hin hq1 HH.out.sp
      have hbx := mt_cells HH.out.k
      have SC : Hid (∀ W, Below W3.drew.heap.size W3.drew W → Hd w W q w1.heap.size b L n qa qc) := fun W hW => (HH.out.later (Below.refl _ _).drew).later hW
      have SX : ∀ W, Below W3.drew.heap.size W3.drew W → (W.cell? ⟨q, 0, none⟩ = some (.int .i64 b.k) ∧ W.cell? ⟨q, 1, none⟩ = some (.int .i64 b.g) ∧ W.cell? ⟨q, 2, none⟩ = some (.int .i64 b.n) ∧ W.cell? ⟨q, 3, none⟩ = some (.int .i64 b.i) ∧ W.cell? ⟨q, 4, none⟩ = some (.int .i64 b.f) ∧ W.cell? ⟨q, 5, none⟩ = some (.int .i64 b.v)) := fun W hW => mt_cells (SC.out W hW).k
      have TK : ∀ W, Below W3.drew.heap.size W3.drew W → Ms W qa i ((L.take i).map Mq.m) := fun W hW => by
        have := (SC.out W hW).m.take i hin
        rwa [← List.map_take] at this
      have DR : ∀ W, Below W3.drew.heap.size W3.drew W → Ms W x (n - i) ((L.drop i).map Mq.m) := fun W hW => by
        have := (SC.out W hW).m.drop (x := x) i hin (fun hl => hx1 (by omega))
        rwa [← List.map_drop] at this
      have hz1 := HH.out.z
      have hz2 : x = none → qc - i = 0 := fun e => by
        by_cases h0 : qa = none
        · have := hz1 h0; omega
        · rcases Nat.lt_or_ge i qc with h1 | h1
          · have := hx1 h1
            rw [e] at this
            cases qa with
            | none => exact absurd rfl h0
            | some _ => cases this
          · omega
      have hzz : ((L.take i).map Mq.m).length + 1 ≤ 1000000 ∧ (((L.take i).map Mq.m) ++ [b]).length + (n - i) ≤ 1000000 := by
        have := HLN.out
        simp only [List.length_append, List.length_map, List.length_take, List.length_cons, List.length_nil]
        omega
      -- the first order
      obtain ⟨vA1, WA1, rA1, oA1, gA1⟩ := run_appMs W3.drew W3.drew.heap.size (.slice none 0 0) [] (OwnM.nil _ _) qa i qc _ (TK _ (Below.refl _ _)) hz1 (by simp; omega) (Nat.le_refl _)
      rw [List.nil_append] at oA1
      have bA1 : Below W3.drew.heap.size W3.drew WA1 := (Below.refl _ _).grown gA1 (Nat.le_refl _) (fun k hk => by cases hk)
      have bA2 : Below W3.drew.heap.size W3.drew (WA1.alloc (mtObj b)) := bA1.trans ((below_alloc WA1 (mtObj b) _ (Nat.le_refl _)).mono bA1.size)
      obtain ⟨vA3, WA3, rA3, oA3, gA3⟩ := run_appMs (WA1.alloc (mtObj b)) W3.drew.heap.size vA1 _ (oA1.later (below_alloc WA1 (mtObj b) _ (Nat.le_refl _))) (some ⟨WA1.heap.size, 0, none⟩) 1 1 [b] (Ms.one WA1 b) (fun e => by cases e) hzz.1 bA2.size
      have bA3 : Below W3.drew.heap.size W3.drew WA3 := bA2.grown gA3 bA2.size (fun k hk => ((oA1.later (below_alloc WA1 (mtObj b) _ (Nat.le_refl _))).lt k hk).1)
      obtain ⟨vA4, WA4, rA4, oA4, gA4⟩ := run_appMs WA3 W3.drew.heap.size vA3 _ oA3 x (n - i) (qc - i) _ (DR _ bA3) hz2 hzz.2 bA3.size
      have bA4 : Below W3.drew.heap.size W3.drew WA4 := bA3.grown gA4 bA3.size (fun k hk => (oA3.lt k hk).1)
      -- the second order
      have bB1 : Below W3.drew.heap.size W3.drew (W3.alloc (mtObj b)).drew := below_alloc W3.drew (mtObj b) _ (Nat.le_refl _)
      obtain ⟨vB2, WB2, rB2, oB2, gB2⟩ := run_appMs (W3.alloc (mtObj b)).drew W3.drew.heap.size (.slice none 0 0) [] (OwnM.nil _ _) qa i qc _ (TK _ bB1) hz1 (by simp; omega) bB1.size
      rw [List.nil_append] at oB2
      have bBB : Below (W3.alloc (mtObj b)).drew.heap.size (W3.alloc (mtObj b)).drew WB2 := (Below.refl _ _).grown gB2 (Nat.le_refl _) (fun k hk => by cases hk)
      have bB2 : Below W3.drew.heap.size W3.drew WB2 := bB1.trans (bBB.mono bB1.size)
      obtain ⟨vB3, WB3, rB3, oB3, gB3⟩ := run_appMs WB2 W3.drew.heap.size vB2 _ oB2 (some ⟨W3.drew.heap.size, 0, none⟩) 1 1 [b] ((show Ms (W3.alloc (mtObj b)).drew (some ⟨W3.drew.heap.size, 0, none⟩) 1 [b] from Ms.one W3.drew b).later bBB (Nat.le_refl _)) (fun e => by cases e) hzz.1 bB2.size
      have bB3 : Below W3.drew.heap.size W3.drew WB3 := bB2.grown gB3 bB2.size (fun k hk => (oB2.lt k hk).1)
      obtain ⟨vB4, WB4, rB4, oB4, gB4⟩ := run_appMs WB3 W3.drew.heap.size vB3 _ oB3 x (n - i) (qc - i) _ (DR _ bB3) hz2 hzz.2 bB3.size
      have bB4 : Below W3.drew.heap.size W3.drew WB4 := bB3.grown gB4 bB3.size (fun k hk => (oB3.lt k hk).1)
      have s0 := SX _ (Below.refl W3.drew.heap.size W3.drew)
      have sA1 := SX _ bA1
      have sA2 := SX _ bA2
      have sA3 := SX _ bA3
      have sA4 := SX _ bA4
      have sB1 := SX _ bB1
      have sB2 := SX _ bB2
      have sB3 := SX _ bB3
      have sB4 := SX _ bB4
      have hno : ∀ ys zs : List Mt, ((ys ++ [b]) ++ zs).all mayB = false := fun ys zs => by simp [HH.out.no]
      have hlen : ((((L.take i).map Mq.m) ++ [b]) ++ (L.drop i).map Mq.m).length ≤ 100000 := by
        have := HLN.out
        simp only [List.length_append, List.length_map, List.length_take, List.length_drop, List.length_cons, List.length_nil]
        omega
      have hbw := (HH.out.later (Below.refl _ _).drew).c
      obtain ⟨pA, cA, eA, mA⟩ := oA4.ms
      obtain ⟨pB, cB, eB, mB⟩ := oB4.ms
      generalize hml : ((((L.take i).map Mq.m) ++ [b]) ++ (L.drop i).map Mq.m) = ml at *
      have hmn : ml.all mayB = false := by rw [← hml]; exact hno _ _
      have END : ∀ (p : Option Addr) (c : Nat) (W4 : World), Ms W4 p ml.length ml → Below w.heap.size w W4 → Hid (Calls Tryz.prog 25 #[.pointer (some ⟨W4.heap.size + 1 + 1 + 1, 0, none⟩), .slice p ml.length c] (newSt W4) fun e w' => e = .returned (.int .i64 1) ∧ Hid (Calls Tryz.prog 28 #[.pointer (some ⟨W4.heap.size + 1 + 1 + 1, 0, none⟩)] w' fun e w'' => (∃ y c, e = .returned (.slice y 0 c)) ∧ Hid (Below w.heap.size w w''))) := fun p c W4 hM hB => by
        have h1 := Sg.new W4
        have h2 := newSt_below W4
        refine Calls.mono (h1.form p ml.length c ml (hM.later h2 (Nat.le_refl _)) hlen hmn) ?_
        rintro e w' ⟨r1, r2⟩
        refine ⟨r1, ?_⟩
        refine Calls.mono ((h1.later r2).len (by omega) kof_none) ?_
        rintro e w'' ⟨y, c, q1, q2⟩
        have h3 := h2.trans (r2.mono h2.size)
        have h4 := hB.trans (h3.mono hB.size)
        exact ⟨⟨y, c, q1⟩, h4.trans (q2.mono h4.size)⟩
      have HEA := END pA cA WA4 mA (hbw.trans (bA4.mono hbw.size))
      have HEB := END pB cB WB4 mB (hbw.trans (bB4.mono hbw.size))
      have RA1 := hide rA1
      have RA3 := hide rA3
      have RA4 := hide rA4
      have RB2 := hide rB2
      have RB3 := hide rB3
      have RB4 := hide rB4
      rw [eA] at RA4
      rw [eB] at RB4
      clear rA1 rA3 rA4 rB2 rB3 rB4 oA1 oA3 oA4 oB2 oB3 oB4 gA1 gA3 gA4 gB2 gB3 gB4 bA1 bA2 bA3 bA4 bB1 bBB bB2 bB3 bB4 eA eB mA mB hml hmn END hno hlen hbw SX TK DR SC hbx hz1 hz2 hzz hx1 hx2 HLN
      unfold mtObj at sA2 sB1 RA3 RB2
      go_wp2
      simp only [sr']
      clear er' sr' hrb
      go_region_held3 (fun w' => w'.cell? ⟨q, 0, none⟩ = some (.int .i64 b.k) ∧ w'.cell? ⟨q, 1, none⟩ = some (.int .i64 b.g) ∧ w'.cell? ⟨q, 2, none⟩ = some (.int .i64 b.n) ∧ w'.cell? ⟨q, 3, none⟩ = some (.int .i64 b.i) ∧ w'.cell? ⟨q, 4, none⟩ = some (.int .i64 b.f) ∧ w'.cell? ⟨q, 5, none⟩ = some (.int .i64 b.v)) (first | with_reducible exact s0 | with_reducible exact sA1 | with_reducible exact sA2 | with_reducible exact sA3 | with_reducible exact sA4 | with_reducible exact sB1 | with_reducible exact sB2 | with_reducible exact sB3 | with_reducible exact sB4) (first | (refine step_ran_at (W3.drew) rfl _ _ _ _ rfl (.slice none 0 0) (.slice qa i qc) (vA1) ?_ ?_ ?_ RA1.out ?_; (with_reducible rfl); rfl; rfl) | (refine step_ran_at ((W3.alloc (.cells #[.int .i64 b.k, .int .i64 b.g, .int .i64 b.n, .int .i64 b.i, .int .i64 b.f, .int .i64 b.v] 61)).drew) rfl _ _ _ _ rfl (.slice none 0 0) (.slice qa i qc) (vB2) ?_ ?_ ?_ RB2.out ?_; (with_reducible rfl); rfl; rfl) | (refine step_ran_at (WA1.alloc (.cells #[.int .i64 b.k, .int .i64 b.g, .int .i64 b.n, .int .i64 b.i, .int .i64 b.f, .int .i64 b.v] 61)) rfl _ _ _ _ rfl (vA1) (.slice (some ⟨WA1.heap.size, 0, none⟩) 1 1) (vA3) ?_ ?_ ?_ RA3.out ?_; (with_reducible rfl); rfl; rfl) | (refine step_ran_at (WB2) rfl _ _ _ _ rfl (vB2) (.slice (some ⟨W3.drew.heap.size, 0, none⟩) 1 1) (vB3) ?_ ?_ ?_ RB3.out ?_; (with_reducible rfl); rfl; rfl) | (refine step_ran_at (WA3) rfl _ _ _ _ rfl (vA3) (.slice x (n - i) (qc - i)) (.slice pA ml.length cA) ?_ ?_ ?_ RA4.out ?_; (with_reducible rfl); rfl; rfl) | (refine step_ran_at (WB3) rfl _ _ _ _ rfl (vB3) (.slice x (n - i) (qc - i)) (.slice pB ml.length cB) ?_ ?_ ?_ RB4.out ?_; (with_reducible rfl); rfl; rfl))
      all_goals
        clear RA1 RA3 RA4 RB2 RB3 RB4 s0 sA1 sA2 sA3 sA4 sB1 sB2 sB3 sB4
        go_wp2_with fail
        refine (stateNew _).mono ?_
        rintro e w8 ⟨rfl, rfl⟩
        go_wp2_with fail
        first
          | (with_reducible refine HEA.out.mono ?_)
          | (with_reducible refine HEB.out.mono ?_)
        rintro e w9 ⟨rfl, HCC⟩
        clear HEA HEB
        go_wp2_with fail
        refine HCC.out.mono ?_
        rintro e wT ⟨⟨y, cy, rfl⟩, HBB⟩
        clear HCC
        go_wp2
        go_ret
        exact ⟨by simp, HBB.out⟩

theorem own : ownKnob Tryz.prog.godebug = none := by kernel_rfl
theorem laidOut : laidOutB Tryz.prog = true := by kernel_rfl

set_option maxRecDepth 100000 in
theorem lifted (os : Os) (started : os.Started) (H : Type) (enc : TypeId × Value → H) :
    ReturnsInHanded {} Tryz.checked os 10 .any (Rows.stateAllNoneSpec.pre6 enc Tryz.prog Tryz.f10 Rows.stateAllNoneRow.domain false) (Rows.stateAllNoneSpec.post enc Tryz.prog Tryz.f10 false true false false) := by
  refine returnsInHanded_of_change (C := Tryz.checked) own started (by kernel_rfl) Tryz.func10
    (ChangeSpec.witness6 (enc := enc) (C := Tryz.checked) false ⟨#[], #[.slice none 0 0, .int .i64 0, .agg #[.int .i64 0, .int .i64 0, .int .i64 0, .int .i64 0, .int .i64 0, .int .i64 0]], []⟩ 8 (by kernel_rfl) (by kernel_rfl) (by kernel_rfl) (by kernel_rfl)) ?_
  intro W base args ds gs before hval0 hW hcnd _
  have hval : ∀ (j : Nat) t v, Tryz.f10.params[j]? = some t → args[j]? = some v → Value.okWide Tryz.prog W .any base t v := hval0
  have hW' := hW
  obtain ⟨p, q, hA0, hV, rfl, hfz, hnd⟩ := hW
  have hA : DataW.TrodAll enc Tryz.prog W 0 (fun _ => true) true Tryz.f10.params.toList args.toList ds p := hA0
  rw [Tryz.params10] at hA hval
  obtain ⟨v0, vs0, d0, ds0, p0, q0, hargs, rfl, rfl, h0, r0⟩ := trodAll_cons hA
  obtain ⟨v1, vs1, d1, ds1, p1, q1, rfl, rfl, rfl, h1, r1⟩ := trodAll_cons r0
  obtain ⟨v2, vs2, d2, ds2, p2, q2, rfl, rfl, rfl, h2, r2⟩ := trodAll_cons r1
  obtain ⟨rfl, rfl, rfl⟩ := trodAll_nil r2
  obtain rfl : args = #[v0, v1, v2] := by cases args; simp_all
  obtain ⟨rfl, rfl⟩ := trodVars_none hV
  obtain ⟨a0, n0, c0, rfl⟩ := okWide_slice Tryz.underlying52 (hval 0 52 v0 rfl rfl)
  have k0 := h0
  have lt0 : ∀ x ∈ p0, x.block < W.heap.size := by obtain ⟨m, hm⟩ := k0; exact DataW.trod_lt m _ _ _ hm
  obtain ⟨z0, w0⟩ : ∃ xs : List Mq, Ms W a0 n0 (xs.map Mq.m) ∧ (∀ x ∈ xs, wfQ x) ∧ n0 ≤ c0 ∧ c0 ≤ 9223372036854775807 := by
    obtain ⟨fuel, hf⟩ := h0
    rcases open_mqs hf with hcs | ⟨x, l, c, ms, hcs, hl, hm, hM, hw⟩
    · simp [Value.cells] at hcs; obtain ⟨rfl, rfl, rfl⟩ := hcs; exact ⟨[], ⟨rfl, fun h => absurd h (Nat.lt_irrefl 0)⟩, by simp, Nat.le_refl _, by omega⟩
    · simp [Value.cells] at hcs; obtain ⟨rfl, rfl, rfl⟩ := hcs; exact ⟨ms, hM, hw, hl, by simpa [maxLen] using hm⟩
  obtain ⟨a1, rfl, rfl, rfl, w1⟩ := open_int Tryz.underlying3 (hval 1 3 v1 rfl rfl) h1
  have k2 := h2
  have lt2 : ∀ x ∈ p2, x.block < W.heap.size := by obtain ⟨m, hm⟩ := k2; exact DataW.trod_lt m _ _ _ hm
  obtain ⟨z2, rfl, w2⟩ : ∃ x : Mq, v2 = mV x.m ∧ wfQ x := by
    obtain ⟨cs, rfl, hsz⟩ := okWide_struct Tryz.underlying61 (hval 2 61 v2 rfl rfl)
    obtain ⟨fuel, hf⟩ := h2
    obtain ⟨x, hx, wx⟩ := open_mq hf
    exact ⟨x, by obtain ⟨l⟩ := cs; simp only [Value.cells] at hx; subst hx; rfl, wx⟩
  clear hA0 hval0
  refine (walk a0 n0 c0 z0 a1 z2 W w0.1 w0.2.1 w0.2.2.1 w0.2.2.2 w1 w2).mono fun e W' ⟨he, bel⟩ => ?_
  subst he
  exact ⟨_, rfl, _, _, _, [], _, [], hW', trodAll_mk1 (shut_bool Tryz.underlying4 _), (trodAll_cons_mk (Below.trod laidOut (by kernel_rfl) (of_decide_eq_true (by kernel_rfl)) k0 bel lt0) (trodAll_cons_mk (shut_int Tryz.underlying3 w1) (trodAll_cons_mk (Below.trod laidOut (by kernel_rfl) (of_decide_eq_true (by kernel_rfl)) k2 bel lt2) trodAll_mk0))), rfl, bel.frame _, fun h => by cases h⟩

theorem over : Rows.stateAllNoneRow.holds Tryz.pinned (OpenSpec.ofChange Rows.stateAllNoneSpec) :=
  OpenClaim.holds_of_wide 10 Tryz.f10 rfl rfl rfl rfl rfl rfl rfl ⟨rfl, rfl, rfl, rfl, rfl⟩ rfl rfl rfl rfl rfl (by kernel_rfl) Tryz.func10 (by kernel_rfl)
    (of_decide_eq_true (by kernel_rfl)) (by unfold Func.isWrapper; first | (rw [if_pos (by decide +kernel)]; kernel_rfl) | (rw [if_neg (by decide +kernel)]; exact ⟨rfl, rfl⟩))
    (fun os started H enc _ => lifted os started H enc)

theorem proved : Rows.StateAllNoneSaid := over
#print axioms proved
end Go.Proofs.YtgglokfpafbmeaaGreat.stateAllNone
