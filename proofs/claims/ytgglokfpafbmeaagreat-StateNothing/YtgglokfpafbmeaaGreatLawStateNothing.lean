/- The statement StateNothing: changes of what is not there do nothing, for all changes, keys and fields. -/
import Derived.Test.YtgglokfpafbmeaaGreatStaG
import Derived.Test.YtgglokfpafbmeaaGreatKeyF
import Derived.Test.YtgglokfpafbmeaaGreatBeg7
import Derived.Test.YtgglokfpafbmeaaGreatLawA
import Derived.Deep.LoopGhost
import Derived.Deep.CutBlock
import Derived.Deep.CutRange
namespace Go.Proofs.YtgglokfpafbmeaaGreat.stateNothing
open Go.ChangeShapes Go.WideShapes Go.ChangeAt Go.RowKit Go.MapKept Go.ChangeMaps

theorem len8 (x : Int) : ∃ (r : Int) (i : Nat), x.tmod 8 = r ∧ -8 < r ∧ r < 8 ∧ (r + 8) % 8 = (i : Int) ∧ i < 8 := by
  obtain ⟨r, i, h1, h2, h3, h4, h5⟩ := placeK x 8 (by omega)
  exact ⟨r, i, h1, by omega, by omega, h4, h5⟩
def cDel (κ : K3) : Mq := ⟨2, κ, 0, 0⟩
def cClear (κ : K3) : Mq := ⟨4, κ, 0, 0⟩
def cCut (κ : K3) (i : Nat) : Mq := ⟨6, κ, i, 0⟩
theorem upd_no {f : K3 → Option Int} {κ : K3} (h : f κ = none) : updK f κ none = f := by
  funext k
  unfold updK
  split
  · rename_i e; rw [e, h]
  · rfl
theorem updR_no {α : Type} {f : K3 → List α} {κ : K3} {l : List α} (h : f κ = l) : updR f κ l = f := by
  funext k
  unfold updR
  split
  · rename_i e; rw [e, h]
  · rfl
theorem do_del {a : Ab} {κ : K3} (h : a.V κ = none) : doQ a (cDel κ) = a := by
  show (⟨updK a.V κ none, a.L, a.D⟩ : Ab) = a
  rw [upd_no h]
theorem do_clear {a : Ab} {κ : K3} (h : a.L κ = []) : doQ a (cClear κ) = a := by
  show (⟨a.V, updR a.L κ [], a.D⟩ : Ab) = a
  rw [updR_no h]
theorem do_cut {a : Ab} {κ : K3} {i : Nat} (h : (fldZ (a.D κ) (i : Int)).isSome = false) : doQ a (cCut κ i) = a := by
  have e : cutF (a.D κ) (i : Int) = a.D κ := by
    have := has_fld (a.D κ) (i : Int)
    rw [h] at this
    unfold cutF
    rw [if_neg (by rw [this]; decide)]
  show (⟨a.V, a.L, updR a.D κ (cutF (a.D κ) (i : Int))⟩ : Ab) = a
  rw [e, updR_no rfl]
theorem key_in (a b c : Int) : keyB (keyF a b c).g (keyF a b c).n (keyF a b c).i = true := by
  have hb : 0 ≤ bits BinOp.and IntKind.i64 b 1 ∧ bits BinOp.and IntKind.i64 b 1 < 2 := by
    have h : (BitVec.ofInt 64 b &&& BitVec.ofInt 64 1).toNat < 2 := by
      have e : (BitVec.ofInt 64 1).toNat = 1 := by decide
      rw [BitVec.toNat_and, e, Nat.and_one_is_mod]
      omega
    show 0 ≤ IntKind.i64.wrap (((BitVec.ofInt 64 b &&& BitVec.ofInt 64 1).toNat : Nat) : Int) ∧ IntKind.i64.wrap (((BitVec.ofInt 64 b &&& BitVec.ofInt 64 1).toNat : Nat) : Int) < 2
    rw [IntKind.wrap_i64]
    omega
  have h1 : 0 ≤ (a.tmod 4 + 4) % 4 ∧ (a.tmod 4 + 4) % 4 < 4 := by omega
  have h2 : 0 ≤ (c.tmod 24 + 24) % 24 ∧ (c.tmod 24 + 24) % 24 < 24 := by omega
  have e : keyB (keyF a b c).g (keyF a b c).n (keyF a b c).i = (inR ((a.tmod 4 + 4) % 4) 4 && inR (bits BinOp.and IntKind.i64 b 1) 2 && inR ((c.tmod 24 + 24) % 24) 24) := rfl
  rw [e]
  unfold inR
  rw [decide_eq_true h1, decide_eq_true hb, decide_eq_true h2]
  rfl

/-- What is held behind Copy: the state, its copy, the key's box, a row of changes that do nothing. -/
structure Hd (w W : World) (B : Nat) (E1 E2 : Nat → Prop) (s v1 l1 d1 t v2 l2 d2 q : Nat) (κ : K3) (a : Ab) (n m : Nat) (mv : Value) : Prop where
  sa : Sg W E1 s v1 l1 d1 a n
  sb : Sg W E2 t v2 l2 d2 a n
  kb : W.heap[q]? = some (k3O κ)
  e1 : ∀ k, E1 k → k < B ∧ ¬ E2 k
  e2 : ∀ k, E2 k → k < B ∧ w.heap.size ≤ k
  qB : q < B
  bc : Below w.heap.size w W
  sz : B ≤ W.heap.size
  wB : w.heap.size ≤ B
  r : ∃ ms : List Mq, OwnM W B mv (ms.map Mq.m) ∧ (∀ x ∈ ms, mayB x.m = true) ∧ runQ a ms = a ∧ ms.length ≤ m
section
variable {w W W' : World} {B : Nat} {E1 E2 : Nat → Prop} {s v1 l1 d1 t v2 l2 d2 q : Nat} {κ : K3} {a : Ab} {n m : Nat} {mv : Value}
theorem Hd.tch (h : Hd w W B E1 E2 s v1 l1 d1 t v2 l2 d2 q κ a n m mv) (ht : Tch (fun k => B ≤ k) W W') {mv' : Value} {m' : Nat} (hr : ∃ ms : List Mq, OwnM W' B mv' (ms.map Mq.m) ∧ (∀ x ∈ ms, mayB x.m = true) ∧ runQ a ms = a ∧ ms.length ≤ m') : Hd w W' B E1 E2 s v1 l1 d1 t v2 l2 d2 q κ a n m' mv' :=
  ⟨h.sa.tch ht (fun k h1 _ h2 => by have := (h.e1 k h1).1; omega), h.sb.tch ht (fun k h1 _ h2 => by have := (h.e2 k h1).1; omega), ht.old h.kb (fun e => by have := h.qB; omega), h.e1, h.e2, h.qB, h.bc.trans (ht.below (fun k hk e => by have := h.wB; omega) h.bc.size), Nat.le_trans h.sz ht.size, h.wB, hr⟩
theorem Hd.later (h : Hd w W B E1 E2 s v1 l1 d1 t v2 l2 d2 q κ a n m mv) (hb : Below W.heap.size W W') : Hd w W' B E1 E2 s v1 l1 d1 t v2 l2 d2 q κ a n m mv := by
  obtain ⟨ms, h1, h2, h3, h4⟩ := h.r
  exact h.tch (Below.tch hb) ⟨ms, h1.later hb, h2, h3, h4⟩
theorem Hd.more (h : Hd w W B E1 E2 s v1 l1 d1 t v2 l2 d2 q κ a n m mv) : Hd w W B E1 E2 s v1 l1 d1 t v2 l2 d2 q κ a n (m + 1) mv := by
  obtain ⟨ms, h1, h2, h3, h4⟩ := h.r
  exact ⟨h.sa, h.sb, h.kb, h.e1, h.e2, h.qB, h.bc, h.sz, h.wB, ms, h1, h2, h3, by omega⟩
/-- One change more that does nothing. -/
theorem Hd.add (h : Hd w W B E1 E2 s v1 l1 d1 t v2 l2 d2 q κ a n m mv) (x : Mq) (hx : mayB x.m = true) (hd : doQ a x = a) (hm : m ≤ 1000) :
    ∃ ms : List Mt, OwnM (W.alloc (mtObj x.m)) B mv ms ∧ ms.length ≤ 1000000 ∧ B ≤ (W.alloc (mtObj x.m)).heap.size ∧ ∀ v' W', OwnM W' B v' (ms ++ [x.m]) → (W.alloc (mtObj x.m)).grownBy W' mv.ownBlock → Hd w W' B E1 E2 s v1 l1 d1 t v2 l2 d2 q κ a n (m + 1) v' := by
  obtain ⟨ms, h1, h2, h3, h4⟩ := h.r
  have hb := below_alloc W (mtObj x.m) W.heap.size (Nat.le_refl _)
  refine ⟨ms.map Mq.m, h1.later hb, by rw [List.length_map]; omega, Nat.le_trans h.sz hb.size, fun v' W' ho hg => (h.later hb).tch ((Tch.of hg).mono (fun k _ e => ((h1.later hb).lt k e.symm).1)) ⟨ms ++ [x], by simpa using ho, fun y hy => ?_, ?_, by rw [List.length_append]; simpa using h4⟩⟩
  · rcases List.mem_append.1 hy with hy | hy
    · exact h2 y hy
    · simp at hy; subst hy; exact hx
  · rw [runQ_app, h3]
    exact hd
theorem Hd.six (h : Hd w W B E1 E2 s v1 l1 d1 t v2 l2 d2 q κ a n m mv) : W.cell? ⟨s, 0, none⟩ = some (.pointer (some ⟨v1, 0, none⟩)) ∧ W.cell? ⟨s, 1, none⟩ = some (.pointer (some ⟨l1, 0, none⟩)) ∧ W.cell? ⟨s, 2, none⟩ = some (.pointer (some ⟨d1, 0, none⟩)) ∧
    W.cell? ⟨q, 0, none⟩ = some (.int .i64 κ.g) ∧ W.cell? ⟨q, 1, none⟩ = some (.int .i64 κ.n) ∧ W.cell? ⟨q, 2, none⟩ = some (.int .i64 κ.i) := by
  obtain ⟨c0, c1, c2⟩ := h.sa.cells
  obtain ⟨y0, y1, y2⟩ := cells_three h.kb
  exact ⟨c0, c1, c2, y0, y1, y2⟩
/-- The copy is told the changes: it is the state still. -/
theorem Hd.last (h : Hd w W B E1 E2 s v1 l1 d1 t v2 l2 d2 q κ a n m mv) (hn : n ≤ 100) (hm : m ≤ 3) (hl : ∀ k, (a.L k).length ≤ 30) : ∃ pa n' cc, mv = .slice pa n' cc ∧
    Calls Tryz.prog 25 #[.pointer (some ⟨t, 0, none⟩), .slice pa n' cc] W fun e w' => e = .returned (.int .i64 0) ∧ Hid (Calls Tryz.prog 39 #[.pointer (some ⟨s, 0, none⟩), .pointer (some ⟨t, 0, none⟩)] w' fun e w'' => e = .returned (.bool true) ∧ Hid (Below w.heap.size w w'')) := by
  obtain ⟨ms, h1, h2, h3, h4⟩ := h.r
  have hlt := h1.lt
  obtain ⟨pa, cc, rfl, hM⟩ := h1.ms
  rw [List.length_map] at hM hlt
  refine ⟨pa, ms.length, cc, by rw [List.length_map], ?_⟩
  have hB : Sg W (fun k => E2 k ∨ W.heap.size ≤ k) t v2 l2 d2 a n := h.sb.wide (fun k hk _ => Or.inl hk)
  refine (hB.few (fun k hk => Or.inr hk) pa ms.length cc ms hM (fun b o e => ?_) h2 30 hl (by omega)).mono ?_
  · subst e
    have h5 := hlt b rfl
    rintro (h6 | h6)
    · have := (h.e2 b h6).1; omega
    · omega
  rintro e w' ⟨r1, r2, r3⟩
  rw [h3] at r2
  refine ⟨r1, ?_⟩
  refine Calls.mono ((h.sa.tch r3 (fun k h6 h7 h8 => by rcases h8 with h8 | h8; exact (h.e1 k h6).2 h8; omega)).same r2 (by omega) (by omega)) ?_
  rintro e w'' ⟨q1, q2⟩
  refine ⟨q1, (h.bc.trans (r3.below (fun k hk h8 => ?_) h.bc.size)).trans (q2.mono (Nat.le_trans h.bc.size r3.size))⟩
  rcases h8 with h8 | h8
  · have := (h.e2 k h8).2; omega
  · have := h.bc.size; omega
end

set_option maxRecDepth 100000 in
set_option maxHeartbeats 8000000 in
theorem walk (pa : Option Addr) (c cc : Nat) (xs : List Mq) (ka kb kc f : Int) (w : World) (hP : Ms w pa c (xs.map Mq.m)) (_hw : ∀ x ∈ xs, wfQ x) (_hcc : c ≤ cc) (_h63 : cc ≤ 9223372036854775807) (_wa : (Lit.int .i64 ka).wf = true) (_wb : (Lit.int .i64 kb).wf = true) (_wc : (Lit.int .i64 kc).wf = true) (_wf : (Lit.int .i64 f).wf = true) :
    Calls Tryz.prog 9 #[.slice pa c cc, .int .i64 ka, .int .i64 kb, .int .i64 kc, .int .i64 f] w fun e w' => e = .returned (.bool true) ∧ Below w.heap.size w w' := by
  have HP := hide hP
  have HXL : Hid (xs.length = c) := by have := hP.1; rw [List.length_map] at this; exact this
  obtain ⟨r8, i, er, br, br', sr, hi⟩ := len8 f
  clear hP _wa _wb _wc _wf
  go_enter Tryz.func9, Tryz.ntmps9
  go_wp2_with fail
  refine (begun7_true _).mono ?_
  rintro e w0 ⟨rfl, hb0⟩
  go_wp2_with fail
  refine (stateNew w0).mono ?_
  rintro e w9 ⟨rfl, rfl⟩
  have hbN := newSt_below w0
  have hzN := newSt_size w0
  have HSN : Hid (Sg (newSt w0) (fun k => w0.heap.size ≤ k ∧ k < (newSt w0).heap.size) (w0.heap.size + 1 + 1 + 1) w0.heap.size (w0.heap.size + 1) (w0.heap.size + 1 + 1) ab0 0) := (Sg.new w0).wide (fun k h1 h2 => ⟨h1, h2⟩)
  have HB1 := hide (hb0.trans (hbN.mono hb0.size))
  have HW0 : Hid (w.heap.size ≤ w0.heap.size) := hb0.size
  have HP1 := hide (HP.out.later HB1.out (Nat.le_refl _))
  clear hb0 hbN hzN
  generalize newSt w0 = w1 at *
  generalize w0.heap.size + 1 + 1 + 1 = s at *
  generalize w0.heap.size + 1 + 1 = d1 at *
  generalize w0.heap.size + 1 = l1 at *
  generalize w0.heap.size = v1 at *
  go_upto_block 0 with fail
  go_cut [13, 14] from 27 to 48 (fun l _ wc => Hid (∃ t, t ≤ 20 ∧ OwnM wc w1.heap.size l ((goodQ xs t).map Mq.m) ∧ Below w1.heap.size w1 wc))
  case first =>
    go_wp2_with fail
    go_loopg [13, 14] 20 (fun gm lv ix wr => ∃ t : Nat, gm = 20 - t ∧ t ≤ c ∧ t ≤ 20 ∧ ix = .int .i64 t ∧ Hid (OwnM wr w1.heap.size lv ((goodQ xs t).map Mq.m) ∧ Below w1.heap.size w1 wr))
    case atStart => exact ⟨0, rfl, by omega, by omega, rfl, OwnM.nil _ _, Below.refl _ _⟩
    case round =>
      obtain ⟨t, rfl, ht, htm, rfl, HO⟩ := hrel
      by_cases hin : t < c ∧ t < 20
      · obtain ⟨hlt, hltm⟩ := hin
        obtain ⟨x, hx⟩ : ∃ x, xs[t]? = some x := ⟨_, List.getElem?_eq_getElem (by rw [HXL.out]; exact hlt)⟩
        obtain ⟨b, o, rfl, z0, z1', z2, z3, z4, z5⟩ := (HP1.out.later HO.out.2 (Nat.le_refl _)).atQ hx
        have HMS : Hid (∀ W, Below wr.heap.size wr W → W.cell? ⟨b, o + t * 6, none⟩ = some (.int .i64 x.c) ∧ W.cell? ⟨b, o + t * 6 + 1, none⟩ = some (.int .i64 x.k.g) ∧ W.cell? ⟨b, o + t * 6 + 2, none⟩ = some (.int .i64 x.k.n) ∧ W.cell? ⟨b, o + t * 6 + 3, none⟩ = some (.int .i64 x.k.i) ∧ W.cell? ⟨b, o + t * 6 + 4, none⟩ = some (.int .i64 x.f) ∧ W.cell? ⟨b, o + t * 6 + 5, none⟩ = some (.int .i64 x.v)) := fun W hW => by
          obtain ⟨b', o', e, y⟩ := ((HP1.out.later HO.out.2 (Nat.le_refl _)).later hW (Nat.le_refl _)).atQ hx
          obtain ⟨rfl, rfl⟩ : b = b' ∧ o = o' := by simpa using e
          exact y
        have HT := hide (goodQ_next hx)
        obtain ⟨MB, HMB⟩ : ∃ y, Hid (y = mayB x.m) := ⟨_, rfl⟩
        have CM : Hid (∀ W, Calls Tryz.prog 42 #[.agg #[.int .i64 x.c, .int .i64 x.k.g, .int .i64 x.k.n, .int .i64 x.k.i, .int .i64 x.f, .int .i64 x.v]] W fun e w' => e = .returned (.bool MB) ∧ Below W.heap.size W w') := fun W => by rw [HMB.out]; exact refMay_any x.m W
        rw [← HMB.out] at HT
        have HLEN : Hid (((goodQ xs t).map Mq.m).length ≤ 1000000) := by have := goodQ_len xs t; show _ ≤ _; rw [List.length_map]; omega
        clear hx HMB
        go_wp2_with fail
        refine (CM.out _).mono ?_
        rintro e w2 ⟨rfl, hb2⟩
        have HO2 := hide (HO.out.1.later hb2)
        have HB2 := hide (HO.out.2.trans (hb2.mono HO.out.2.size))
        clear z0 z1' z2 z3 z4 z5
        obtain ⟨z0, z1', z2, z3, z4, z5⟩ := HMS.out w2 hb2
        clear hb2 HMS CM HO
        cases MB with
        | true =>
          have hbA := below_alloc w2 (mtObj x.m) w2.heap.size (Nat.le_refl _)
          have ho := And.intro (HB2.out.trans (hbA.mono HB2.out.size)) (HO2.out.later hbA)
          have hqn := heap_alloc_new w2 (mtObj x.m)
          have hn1' : (mtObj x.m) = .cells #[.int .i64 x.c, .int .i64 x.k.g, .int .i64 x.k.n, .int .i64 x.k.i, .int .i64 x.f, .int .i64 x.v] 61 := rfl
          rw [hn1'] at ho hqn
          have HOO := hide ho
          have HQN := hide hqn
          clear ho hqn hbA hn1' HO2 HB2
          go_wp2_with (at_builtin; refine wpList_appM rfl (.tmp 42) (.tmp 47) rfl w1.heap.size _ _ rfl HOO.out.2 w2.heap.size x.m rfl HQN.out HLEN.out HOO.out.1.size ?_)
          intro v3 w3 ho3 hg3
          have HN : Hid (OwnM w3 w1.heap.size v3 ((goodQ xs (t + 1)).map Mq.m) ∧ Below w1.heap.size w1 w3) := ⟨by rw [HT.out]; simpa using ho3, HOO.out.1.grown hg3 HOO.out.1.size (fun k hk => (HOO.out.2.lt k hk).1)⟩
          clear ho3 hg3 z0 z1' z2 z3 z4 z5 HOO HQN HT
          go_wp2
          go_roundg (20 - (t + 1))
          case measure => omega
          case rel => exact ⟨t + 1, rfl, by omega, by omega, by simp, HN⟩
        | false =>
          have HN : Hid (OwnM w2 w1.heap.size u13 ((goodQ xs (t + 1)).map Mq.m) ∧ Below w1.heap.size w1 w2) := ⟨by rw [HT.out]; simpa using HO2.out, HB2.out⟩
          clear z0 z1' z2 z3 z4 z5 HO2 HB2 HT
          go_wp2
          go_roundg (20 - (t + 1))
          case measure => omega
          case rel => exact ⟨t + 1, rfl, by omega, by omega, by simp, HN⟩
      · have hcs : (¬ t < c) ∨ (t < c ∧ ¬ t < 20) := by omega
        clear hin
        rcases hcs with hh | ⟨hh, hh2⟩
        all_goals
          go_wp2_with fail
          go_meet
          case rel => exact ⟨t, htm, HO.out⟩
  case rest =>
    obtain ⟨t, htm, hO, hbc⟩ := hcut.out
    obtain ⟨L, hL⟩ : ∃ L, goodQ xs t = L := ⟨_, rfl⟩
    have HMAY : Hid (∀ x ∈ L, mayB x.m = true) := by rw [← hL]; exact goodQ_may xs t
    have hLn : L.length ≤ 20 := by rw [← hL]; have := goodQ_len xs t; omega
    rw [hL] at hO
    have hlt := hO.lt
    obtain ⟨qa, qc, rfl, hM⟩ := hO.ms
    obtain ⟨n, hn⟩ : ∃ n, L.length = n := ⟨_, rfl⟩
    rw [List.length_map, hn] at hM hlt ⊢
    rw [hn] at hLn
    have HA : Hid (∀ k, ((runQ ab0 L).L k).length ≤ 30) := fun k => by
      have := runQ_len k L ab0
      have e0 : (ab0.L k).length = 0 := rfl
      omega
    -- Do
    have HD : Hid (Calls Tryz.prog 25 #[.pointer (some ⟨s, 0, none⟩), .slice qa n qc] wc fun e w' => e = .returned (.int .i64 0) ∧ Hid (Below w.heap.size w w' ∧ ∃ E1 : Nat → Prop, Sg w' E1 s v1 l1 d1 (runQ ab0 L) n ∧ ∀ k, E1 k → k < w'.heap.size)) := by
      have h1 : Sg wc (fun k => (v1 ≤ k ∧ k < w1.heap.size) ∨ wc.heap.size ≤ k) s v1 l1 d1 ab0 0 := (HSN.out.later hbc).wide (fun k h1 _ => Or.inl h1)
      refine Calls.mono (h1.few (fun k hk => Or.inr hk) qa n qc L hM (fun b o e => ?_) HMAY.out 0 (fun k => Nat.le_refl _) (by omega)) ?_
      · subst e
        have h5 := hlt b rfl
        rintro (h6 | h6) <;> omega
      rintro e w' ⟨r1, r2, r3⟩
      rw [Nat.zero_add] at r2
      have hw0 := HW0.out
      have hcs := (HB1.out.trans (hbc.mono HB1.out.size)).size
      refine ⟨r1, (HB1.out.trans (hbc.mono HB1.out.size)).trans (r3.below (fun k hk h8 => ?_) hcs), fun k => ((v1 ≤ k ∧ k < w1.heap.size) ∨ wc.heap.size ≤ k) ∧ k < w'.heap.size, r2.wide (fun k h1 h2 => ⟨h1, h2⟩), fun k hk => hk.2⟩
      rcases h8 with h8 | h8 <;> omega
    generalize runQ ab0 L = a at *
    clear hO hbc hcut hL hlt hM hn HB1 HP1 HP HMAY HSN
    go_wp2_with fail
    refine HD.out.mono ?_
    rintro e wD ⟨rfl, HS⟩
    clear HD
    go_wp2_with fail
    refine (key_any ka kb kc _).mono ?_
    rintro e w2 ⟨rfl, hb2⟩
    have HKI := hide (key_in ka kb kc)
    generalize keyF ka kb kc = κ at *
    have hb3 := below_alloc w2 (k3O κ) w2.heap.size (Nat.le_refl _)
    have HS3 : Hid (Below w.heap.size w (w2.alloc (k3O κ)) ∧ (∃ E1 : Nat → Prop, Sg (w2.alloc (k3O κ)) E1 s v1 l1 d1 a n ∧ ∀ k, E1 k → k < (w2.alloc (k3O κ)).heap.size) ∧ (w2.alloc (k3O κ)).heap[w2.heap.size]? = some (k3O κ) ∧ w2.heap.size < (w2.alloc (k3O κ)).heap.size) := by
      obtain ⟨h1, E1, h2, h3⟩ := HS.out
      have hb := hb2.trans (hb3.mono hb2.size)
      exact ⟨h1.trans (hb.mono h1.size), ⟨E1, h2.later hb, fun k hk => Nat.lt_of_lt_of_le (h3 k hk) hb.size⟩, heap_alloc_new w2 _, by simp⟩
    clear hb2 hb3 HS
    unfold k3E
    have sr2 : r8 % 8 = (i : Int) := by omega
    go_wp2_with fail
    unfold k3O at HS3
    generalize w2.alloc (.cells #[.int .i64 κ.g, .int .i64 κ.n, .int .i64 κ.i] 28) = w3 at *
    generalize w2.heap.size = q at *
    obtain ⟨hB3, ⟨E1, hE1, hE1l⟩, hk3, hq3⟩ := HS3.out
    have HC : Hid (Calls Tryz.prog 37 #[.pointer (some ⟨s, 0, none⟩)] w3 fun e w' => e = .returned (.pointer (some ⟨w3.heap.size + 1 + 1 + 1, 0, none⟩)) ∧ Hid (Hd w w' w'.heap.size E1 (fun k => w3.heap.size ≤ k ∧ k < w'.heap.size) s v1 l1 d1 (w3.heap.size + 1 + 1 + 1) w3.heap.size (w3.heap.size + 1) (w3.heap.size + 1 + 1) q κ a n 0 (.slice none 0 0))) := by
      refine Calls.mono (hE1.copy (by omega)) ?_
      rintro e w' ⟨r1, r2, r3⟩
      have h5 := r3.size
      have h6 := hB3.size
      exact ⟨r1, ⟨hE1.later r3, r2.wide (fun k h1 h2 => ⟨h1, h2⟩), boxed_old hk3 r3, fun k hk => ⟨by have := hE1l k hk; omega, fun h => by have := hE1l k hk; omega⟩, fun k hk => ⟨hk.2, by omega⟩, by omega, hB3.trans (r3.mono hB3.size), Nat.le_refl _, by omega, [], OwnM.nil _ _, by simp, rfl, Nat.le_refl _⟩⟩
    clear HS3 hB3 hE1 hE1l hk3 hq3 er br br'
    generalize w3.heap.size + 1 + 1 + 1 = tt at *
    generalize w3.heap.size + 1 + 1 = d2 at *
    generalize w3.heap.size + 1 = l2 at *
    generalize w3.heap.size = v2 at *
    go_wp2_with fail
    refine HC.out.mono ?_
    rintro e w4 ⟨rfl, HH0⟩
    clear HC
    generalize (fun k => v2 ≤ k ∧ k < w4.heap.size) = E2 at *
    generalize hB : w4.heap.size = B at *
    clear hB
    try simp only [sr]
    try simp only [sr2]
    clear sr sr2
    have HMD : Hid (mayB (cDel κ).m = true ∧ mayB (cClear κ).m = true ∧ mayB (cCut κ i).m = true) := by
      have := HKI.out
      have h8 : (i : Int) < 8 := by omega
      refine ⟨?_, ?_, ?_⟩ <;> simp [cDel, cClear, cCut, Mq.m, mayB, kindB, fieldB, hasF, inR, valueB, hasV, this, h8]
    clear HKI HW0
    -- the value
    have s0 : w4.drew.cell? ⟨s, 0, none⟩ = some (.pointer (some ⟨v1, 0, none⟩)) ∧ w4.drew.cell? ⟨s, 1, none⟩ = some (.pointer (some ⟨l1, 0, none⟩)) ∧ w4.drew.cell? ⟨s, 2, none⟩ = some (.pointer (some ⟨d1, 0, none⟩)) ∧ w4.drew.cell? ⟨q, 0, none⟩ = some (.int .i64 κ.g) ∧ w4.drew.cell? ⟨q, 1, none⟩ = some (.int .i64 κ.n) ∧ w4.drew.cell? ⟨q, 2, none⟩ = some (.int .i64 κ.i) := HH0.out.six
    obtain ⟨p, hp⟩ : ∃ p, (a.V κ).isSome = p := ⟨_, rfl⟩
    have HV : Hid (Calls Tryz.prog 40 #[.pointer (some ⟨v1, 0, none⟩), .agg #[.int .i64 κ.g, .int .i64 κ.n, .int .i64 κ.i]] w4.drew fun e w' => (∃ x, e = .returned (.tuple #[.int .i64 x, .bool p])) ∧ Hid (Hd w w' B E1 E2 s v1 l1 d1 tt v2 l2 d2 q κ a n 0 (.slice none 0 0)) ∧ (w'.cell? ⟨s, 0, none⟩ = some (.pointer (some ⟨v1, 0, none⟩)) ∧ w'.cell? ⟨s, 1, none⟩ = some (.pointer (some ⟨l1, 0, none⟩)) ∧ w'.cell? ⟨s, 2, none⟩ = some (.pointer (some ⟨d1, 0, none⟩)) ∧ w'.cell? ⟨q, 0, none⟩ = some (.int .i64 κ.g) ∧ w'.cell? ⟨q, 1, none⟩ = some (.int .i64 κ.n) ∧ w'.cell? ⟨q, 2, none⟩ = some (.int .i64 κ.i))) := by
      have h1 := HH0.out.later (Below.refl _ _).drew
      refine Calls.mono (h1.sa.value κ) ?_
      rintro e w' ⟨r1, r2⟩
      rw [hp] at r1
      exact ⟨⟨_, r1⟩, h1.later r2, (h1.later r2).six⟩
    clear HH0
    go_wp2
    go_region_held3 (fun w' => w'.cell? ⟨s, 0, none⟩ = some (.pointer (some ⟨v1, 0, none⟩)) ∧ w'.cell? ⟨s, 1, none⟩ = some (.pointer (some ⟨l1, 0, none⟩)) ∧ w'.cell? ⟨s, 2, none⟩ = some (.pointer (some ⟨d1, 0, none⟩)) ∧ w'.cell? ⟨q, 0, none⟩ = some (.int .i64 κ.g) ∧ w'.cell? ⟨q, 1, none⟩ = some (.int .i64 κ.n) ∧ w'.cell? ⟨q, 2, none⟩ = some (.int .i64 κ.i)) (first | with_reducible exact s0 | with_reducible exact s1) ((go_at_call 40; with_reducible refine HV.out.mono ?_; rintro e w5 ⟨⟨xv, rfl⟩, H5, s1⟩))
    all_goals
      clear HV s0
      obtain ⟨c0, c1, c2, y0, y1, y2⟩ := s1
      go_upto_if 76 with fail
      go_cut [18] from 75 to 81 (fun mv wx => Hid (Hd w wx B E1 E2 s v1 l1 d1 tt v2 l2 d2 q κ a n 1 mv))
      case first =>
        cases p with
        | true =>
          go_wp2
          go_meet
          case rel => exact H5.out.more
        | false =>
          obtain ⟨ms, ho, hz, hB, hN⟩ := H5.out.add (cDel κ) HMD.out.1 (do_del (by simpa using hp)) (by omega)
          have hn1 : (mtObj (cDel κ).m) = .cells #[.int .i64 2, .int .i64 κ.g, .int .i64 κ.n, .int .i64 κ.i, .int .i64 0, .int .i64 0] 61 := rfl
          have hqn := heap_alloc_new w5 (mtObj (cDel κ).m)
          rw [hn1] at ho hB hN hqn
          have HO := hide ho
          have HQ := hide (And.intro hz hB)
          have HN := hide hN
          have HQN := hide hqn
          clear ho hz hB hN hqn hn1 H5
          go_wp2_with (at_builtin; refine wpList_appM rfl (.tmp 77) (.tmp 80) rfl B _ _ rfl HO.out w5.heap.size (cDel κ).m rfl HQN.out HQ.out.1 HQ.out.2 ?_)
          intro v6 w6 ho6 hg6
          have HR := hide (HN.out v6 w6 ho6 hg6)
          clear ho6 hg6 HO HQ HN HQN c0 c1 c2 y0 y1 y2
          go_wp2
          go_meet
          case rel => exact HR
      case rest =>
        have H6 : Hid _ := hcut
        clear hcut c0 c1 c2 y0 y1 y2 H5 hp
        generalize wc = W6 at *
        generalize u18 = mv1 at *
        have s0 : W6.drew.cell? ⟨s, 0, none⟩ = some (.pointer (some ⟨v1, 0, none⟩)) ∧ W6.drew.cell? ⟨s, 1, none⟩ = some (.pointer (some ⟨l1, 0, none⟩)) ∧ W6.drew.cell? ⟨s, 2, none⟩ = some (.pointer (some ⟨d1, 0, none⟩)) ∧ W6.drew.cell? ⟨q, 0, none⟩ = some (.int .i64 κ.g) ∧ W6.drew.cell? ⟨q, 1, none⟩ = some (.int .i64 κ.n) ∧ W6.drew.cell? ⟨q, 2, none⟩ = some (.int .i64 κ.i) := H6.out.six
        obtain ⟨ll, hll⟩ : ∃ ll, (a.L κ).length = ll := ⟨_, rfl⟩
        have hll30 : ll ≤ 30 := by rw [← hll]; exact HA.out κ
        have HL : Hid (Calls Tryz.prog 41 #[.pointer (some ⟨l1, 0, none⟩), .agg #[.int .i64 κ.g, .int .i64 κ.n, .int .i64 κ.i]] W6.drew fun e w' => (∃ y c, e = .returned (.slice y ll c)) ∧ Hid (Hd w w' B E1 E2 s v1 l1 d1 tt v2 l2 d2 q κ a n 1 mv1) ∧ (w'.cell? ⟨s, 0, none⟩ = some (.pointer (some ⟨v1, 0, none⟩)) ∧ w'.cell? ⟨s, 1, none⟩ = some (.pointer (some ⟨l1, 0, none⟩)) ∧ w'.cell? ⟨s, 2, none⟩ = some (.pointer (some ⟨d1, 0, none⟩)) ∧ w'.cell? ⟨q, 0, none⟩ = some (.int .i64 κ.g) ∧ w'.cell? ⟨q, 1, none⟩ = some (.int .i64 κ.n) ∧ w'.cell? ⟨q, 2, none⟩ = some (.int .i64 κ.i))) := by
          have h1 := H6.out.later (Below.refl _ _).drew
          refine Calls.mono (h1.sa.list κ) ?_
          rintro e w' ⟨y, c, r1, _, r2⟩
          rw [hll] at r1
          exact ⟨⟨y, c, r1⟩, h1.later r2, (h1.later r2).six⟩
        clear H6
        go_wp2
        go_region_held3 (fun w' => w'.cell? ⟨s, 0, none⟩ = some (.pointer (some ⟨v1, 0, none⟩)) ∧ w'.cell? ⟨s, 1, none⟩ = some (.pointer (some ⟨l1, 0, none⟩)) ∧ w'.cell? ⟨s, 2, none⟩ = some (.pointer (some ⟨d1, 0, none⟩)) ∧ w'.cell? ⟨q, 0, none⟩ = some (.int .i64 κ.g) ∧ w'.cell? ⟨q, 1, none⟩ = some (.int .i64 κ.n) ∧ w'.cell? ⟨q, 2, none⟩ = some (.int .i64 κ.i)) (first | with_reducible exact s0 | with_reducible exact s1) ((go_at_call 41; with_reducible refine HL.out.mono ?_; rintro e w5 ⟨⟨yl, cl, rfl⟩, H5, s1⟩))
        all_goals
          clear HL s0
          obtain ⟨c0, c1, c2, y0, y1, y2⟩ := s1
          go_upto_if 89 with fail
          go_cut [18] from 82 to 94 (fun mv wx => Hid (Hd w wx B E1 E2 s v1 l1 d1 tt v2 l2 d2 q κ a n 2 mv))
          case first =>
            by_cases h0 : ll = 0
            · obtain ⟨ms, ho, hz, hB, hN⟩ := H5.out.add (cClear κ) HMD.out.2.1 (do_clear (List.length_eq_zero_iff.1 (hll.trans h0))) (by omega)
              have hn1 : (mtObj (cClear κ).m) = .cells #[.int .i64 4, .int .i64 κ.g, .int .i64 κ.n, .int .i64 κ.i, .int .i64 0, .int .i64 0] 61 := rfl
              have hqn := heap_alloc_new w5 (mtObj (cClear κ).m)
              rw [hn1] at ho hB hN hqn
              have HO := hide ho
              have HQ := hide (And.intro hz hB)
              have HN := hide hN
              have HQN := hide hqn
              have h0i : (ll : Int) = 0 := by omega
              clear ho hz hB hN hqn hn1 H5 h0
              go_wp2_with (at_builtin; refine wpList_appM rfl (.tmp 90) (.tmp 93) rfl B _ _ rfl HO.out w5.heap.size (cClear κ).m rfl HQN.out HQ.out.1 HQ.out.2 ?_)
              intro v6 w6 ho6 hg6
              have HR := hide (HN.out v6 w6 ho6 hg6)
              clear ho6 hg6 HO HQ HN HQN c0 c1 c2 y0 y1 y2
              go_wp2
              go_meet
              case rel => exact HR
            · have h0i : ¬ (ll : Int) = 0 := by omega
              clear h0
              go_wp2
              go_meet
              case rel => exact H5.out.more
          case rest =>
            have H6 : Hid _ := hcut
            clear hcut c0 c1 c2 y0 y1 y2 H5 hll hll30
            generalize wc = W7 at *
            generalize u18 = mv2 at *
            have s0 : W7.drew.cell? ⟨s, 0, none⟩ = some (.pointer (some ⟨v1, 0, none⟩)) ∧ W7.drew.cell? ⟨s, 1, none⟩ = some (.pointer (some ⟨l1, 0, none⟩)) ∧ W7.drew.cell? ⟨s, 2, none⟩ = some (.pointer (some ⟨d1, 0, none⟩)) ∧ W7.drew.cell? ⟨q, 0, none⟩ = some (.int .i64 κ.g) ∧ W7.drew.cell? ⟨q, 1, none⟩ = some (.int .i64 κ.n) ∧ W7.drew.cell? ⟨q, 2, none⟩ = some (.int .i64 κ.i) := H6.out.six
            obtain ⟨p, hp⟩ : ∃ p, (fldZ (a.D κ) (i : Int)).isSome = p := ⟨_, rfl⟩
            have HF : Hid (Calls Tryz.prog 21 #[.pointer (some ⟨d1, 0, none⟩), .agg #[.int .i64 κ.g, .int .i64 κ.n, .int .i64 κ.i], .int .i64 (i : Int)] W7.drew fun e w' => (∃ x, e = .returned (.tuple #[.int .i64 x, .bool p])) ∧ Hid (Hd w w' B E1 E2 s v1 l1 d1 tt v2 l2 d2 q κ a n 2 mv2) ∧ (w'.cell? ⟨s, 0, none⟩ = some (.pointer (some ⟨v1, 0, none⟩)) ∧ w'.cell? ⟨s, 1, none⟩ = some (.pointer (some ⟨l1, 0, none⟩)) ∧ w'.cell? ⟨s, 2, none⟩ = some (.pointer (some ⟨d1, 0, none⟩)) ∧ w'.cell? ⟨q, 0, none⟩ = some (.int .i64 κ.g) ∧ w'.cell? ⟨q, 1, none⟩ = some (.int .i64 κ.n) ∧ w'.cell? ⟨q, 2, none⟩ = some (.int .i64 κ.i))) := by
              have h1 := H6.out.later (Below.refl _ _).drew
              refine Calls.mono (h1.sa.field κ (i : Int)) ?_
              rintro e w' ⟨r1, r2⟩
              rw [hp] at r1
              exact ⟨⟨_, r1⟩, h1.later r2, (h1.later r2).six⟩
            clear H6
            go_wp2
            go_region_held3 (fun w' => w'.cell? ⟨s, 0, none⟩ = some (.pointer (some ⟨v1, 0, none⟩)) ∧ w'.cell? ⟨s, 1, none⟩ = some (.pointer (some ⟨l1, 0, none⟩)) ∧ w'.cell? ⟨s, 2, none⟩ = some (.pointer (some ⟨d1, 0, none⟩)) ∧ w'.cell? ⟨q, 0, none⟩ = some (.int .i64 κ.g) ∧ w'.cell? ⟨q, 1, none⟩ = some (.int .i64 κ.n) ∧ w'.cell? ⟨q, 2, none⟩ = some (.int .i64 κ.i)) (first | with_reducible exact s0 | with_reducible exact s1) ((go_at_call 21; with_reducible refine HF.out.mono ?_; rintro e w5 ⟨⟨xv, rfl⟩, H5, s1⟩))
            all_goals
              clear HF s0
              obtain ⟨c0, c1, c2, y0, y1, y2⟩ := s1
              go_upto_if 106 with fail
              go_cut [18] from 105 to 112 (fun mv wx => Hid (Hd w wx B E1 E2 s v1 l1 d1 tt v2 l2 d2 q κ a n 3 mv))
              case first =>
                cases p with
                | true =>
                  go_wp2
                  go_meet
                  case rel => exact H5.out.more
                | false =>
                  obtain ⟨ms, ho, hz, hB, hN⟩ := H5.out.add (cCut κ i) HMD.out.2.2 (do_cut hp) (by omega)
                  have hn1 : (mtObj (cCut κ i).m) = .cells #[.int .i64 6, .int .i64 κ.g, .int .i64 κ.n, .int .i64 κ.i, .int .i64 (i : Int), .int .i64 0] 61 := rfl
                  have hqn := heap_alloc_new w5 (mtObj (cCut κ i).m)
                  rw [hn1] at ho hB hN hqn
                  have HO := hide ho
                  have HQ := hide (And.intro hz hB)
                  have HN := hide hN
                  have HQN := hide hqn
                  clear ho hz hB hN hqn hn1 H5
                  go_wp2_with (at_builtin; refine wpList_appM rfl (.tmp 107) (.tmp 111) rfl B _ _ rfl HO.out w5.heap.size (cCut κ i).m rfl HQN.out HQ.out.1 HQ.out.2 ?_)
                  intro v6 w6 ho6 hg6
                  have HR := hide (HN.out v6 w6 ho6 hg6)
                  clear ho6 hg6 HO HQ HN HQN c0 c1 c2 y0 y1 y2
                  go_wp2
                  go_meet
                  case rel => exact HR
              case rest =>
                obtain ⟨ra, rn, rc, rfl, hDo⟩ := hcut.out.last (by omega) (Nat.le_refl _) HA.out
                have HDo := hide hDo
                clear hDo hcut c0 c1 c2 y0 y1 y2 H5 hp
                go_wp2_with fail
                refine HDo.out.mono ?_
                rintro e w8 ⟨rfl, HE⟩
                clear HDo
                go_wp2_with fail
                refine HE.out.mono ?_
                rintro e w7 ⟨rfl, HB7⟩
                clear HE
                go_wp2
                go_ret
                exact ⟨by simp, HB7.out⟩

theorem own : ownKnob Tryz.prog.godebug = none := by kernel_rfl
theorem laidOut : laidOutB Tryz.prog = true := by kernel_rfl

set_option maxRecDepth 100000 in
theorem lifted (os : Os) (started : os.Started) (H : Type) (enc : TypeId × Value → H) :
    ReturnsInHanded {} Tryz.checked os 9 .any (Rows.stateNothingSpec.pre6 enc Tryz.prog Tryz.f9 Rows.stateNothingRow.domain false) (Rows.stateNothingSpec.post enc Tryz.prog Tryz.f9 false true false false) := by
  refine returnsInHanded_of_change (C := Tryz.checked) own started (by kernel_rfl) Tryz.func9
    (ChangeSpec.witness6 (enc := enc) (C := Tryz.checked) false ⟨#[], #[.slice none 0 0, .int .i64 0, .int .i64 0, .int .i64 0, .int .i64 0], []⟩ 8 (by kernel_rfl) (by kernel_rfl) (by kernel_rfl) (by kernel_rfl)) ?_
  intro W base args ds gs before hval0 hW hcnd _
  have hval : ∀ (j : Nat) t v, Tryz.f9.params[j]? = some t → args[j]? = some v → Value.okWide Tryz.prog W .any base t v := hval0
  have hW' := hW
  obtain ⟨p, q, hA0, hV, rfl, hfz, hnd⟩ := hW
  have hA : DataW.TrodAll enc Tryz.prog W 0 (fun _ => true) true Tryz.f9.params.toList args.toList ds p := hA0
  rw [Tryz.params9] at hA hval
  obtain ⟨v0, vs0, d0, ds0, p0, q0, hargs, rfl, rfl, h0, r0⟩ := trodAll_cons hA
  obtain ⟨v1, vs1, d1, ds1, p1, q1, rfl, rfl, rfl, h1, r1⟩ := trodAll_cons r0
  obtain ⟨v2, vs2, d2, ds2, p2, q2, rfl, rfl, rfl, h2, r2⟩ := trodAll_cons r1
  obtain ⟨v3, vs3, d3, ds3, p3, q3, rfl, rfl, rfl, h3, r3⟩ := trodAll_cons r2
  obtain ⟨v4, vs4, d4, ds4, p4, q4, rfl, rfl, rfl, h4, r4⟩ := trodAll_cons r3
  obtain ⟨rfl, rfl, rfl⟩ := trodAll_nil r4
  obtain rfl : args = #[v0, v1, v2, v3, v4] := by cases args; simp_all
  obtain ⟨rfl, rfl⟩ := trodVars_none hV
  obtain ⟨a0, n0, c0, rfl⟩ := okWide_slice Tryz.underlying52 (hval 0 52 v0 rfl rfl)
  have k0 := h0
  have lt0 : ∀ x ∈ p0, x.block < W.heap.size := by obtain ⟨m, hm⟩ := k0; exact DataW.trod_lt m _ _ _ hm
  obtain ⟨z0, w0⟩ : ∃ xs : List Mq, Ms W a0 n0 (xs.map Mq.m) ∧ (∀ x ∈ xs, wfQ x) ∧ n0 ≤ c0 ∧ c0 ≤ 9223372036854775807 := by
    obtain ⟨fuel, hf⟩ := h0
    rcases open_mqs hf with hcs | ⟨x, l, c, ms, hcs, hl, hm, hM, hw⟩
    · simp [Value.cells] at hcs; obtain ⟨rfl, rfl, rfl⟩ := hcs; exact ⟨[], ⟨rfl, fun h => absurd h (Nat.lt_irrefl 0)⟩, by simp, Nat.le_refl _, by omega⟩
    · simp [Value.cells] at hcs; obtain ⟨rfl, rfl, rfl⟩ := hcs; exact ⟨ms, hM, hw, hl, by simpa [maxLen] using hm⟩
  obtain ⟨a1, rfl, rfl, rfl, w1⟩ := open_int Tryz.underlying3 (hval 1 3 v1 rfl rfl) h1
  obtain ⟨a2, rfl, rfl, rfl, w2⟩ := open_int Tryz.underlying3 (hval 2 3 v2 rfl rfl) h2
  obtain ⟨a3, rfl, rfl, rfl, w3⟩ := open_int Tryz.underlying3 (hval 3 3 v3 rfl rfl) h3
  obtain ⟨a4, rfl, rfl, rfl, w4⟩ := open_int Tryz.underlying2 (hval 4 2 v4 rfl rfl) h4
  clear hA0 hval0
  refine (walk a0 n0 c0 z0 a1 a2 a3 a4 W w0.1 w0.2.1 w0.2.2.1 w0.2.2.2 w1 w2 w3 w4).mono fun e W' ⟨he, bel⟩ => ?_
  subst he
  exact ⟨_, rfl, _, _, _, [], _, [], hW', trodAll_mk1 (shut_bool Tryz.underlying4 _), (trodAll_cons_mk (Below.trod laidOut (by kernel_rfl) (of_decide_eq_true (by kernel_rfl)) k0 bel lt0) (trodAll_cons_mk (shut_int Tryz.underlying3 w1) (trodAll_cons_mk (shut_int Tryz.underlying3 w2) (trodAll_cons_mk (shut_int Tryz.underlying3 w3) (trodAll_cons_mk (shut_int Tryz.underlying2 w4) trodAll_mk0))))), rfl, bel.frame _, fun h => by cases h⟩

theorem over : Rows.stateNothingRow.holds Tryz.pinned (OpenSpec.ofChange Rows.stateNothingSpec) :=
  OpenClaim.holds_of_wide 9 Tryz.f9 rfl rfl rfl rfl rfl rfl rfl ⟨rfl, rfl, rfl, rfl, rfl⟩ rfl rfl rfl rfl rfl (by kernel_rfl) Tryz.func9 (by kernel_rfl)
    (of_decide_eq_true (by kernel_rfl)) (by unfold Func.isWrapper; first | (rw [if_pos (by decide +kernel)]; kernel_rfl) | (rw [if_neg (by decide +kernel)]; exact ⟨rfl, rfl⟩))
    (fun os started H enc _ => lifted os started H enc)

theorem proved : Rows.StateNothingSaid := over
#print axioms proved
end Go.Proofs.YtgglokfpafbmeaaGreat.stateNothing
