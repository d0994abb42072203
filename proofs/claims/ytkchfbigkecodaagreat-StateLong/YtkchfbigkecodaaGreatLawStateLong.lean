/- The statement StateLong: pushes of which the last one is too many: none is done; a clear between makes room, for all numbers. -/
import Derived.Test.YtkchfbigkecodaaGreatMutT
import Derived.Test.YtkchfbigkecodaaGreatKeyC
import Derived.Test.YtkchfbigkecodaaGreatBeg7
import Derived.Test.YtkchfbigkecodaaGreatLawA
import Derived.Deep.LoopGhost
namespace Go.Proofs.YtkchfbigkecodaaGreat.stateLong
open Go.ChangeShapes Go.WideShapes Go.ChangeAt Go.RowKit Go.MapKept Go.ChangeMaps

def κ0 : K3 := ⟨(0, 0, 0), by decide, by decide, by decide⟩
def cPush (i : Nat) : Mq := ⟨3, κ0, 0, (i : Int)⟩
def cClear : Mq := ⟨4, κ0, 0, 0⟩
/-- The changes of the first rounds. -/
def ml (c : Bool) : Nat → List Mq
  | 0 => []
  | t + 1 => (if (c && decide (t = 60)) = true then ml c t ++ [cClear] else ml c t) ++ [cPush t]
theorem room_no : ∀ i : Fin 12, roomB (fun _ => []) (fun _ => none) (ml false (95 + i.val)) = decide (95 + i.val ≤ 100) := by decide +kernel
theorem room_yes : ∀ i : Fin 12, roomB (fun _ => []) (fun _ => none) (ml true (95 + i.val)) = true := by decide +kernel
theorem len_yes : ∀ i : Fin 12, ((runQ ab0 (ml true (95 + i.val))).L κ0).length = 35 + i.val := by decide +kernel
theorem len_no : ∀ i : Fin 12, ((runQ ab0 (ml false (95 + i.val))).L κ0).length = 95 + i.val := by decide +kernel
theorem ml_len (c : Bool) (t : Nat) : (ml c t).length ≤ 2 * t := by
  induction t with
  | zero => exact Nat.le_refl _
  | succ t ih => rw [ml]; split <;> simp <;> omega
theorem ml_may (c : Bool) (t : Nat) : ((ml c t).map Mq.m).all mayB = true := by
  have h1 : ∀ i, mayB (cPush i).m = true := fun i => by show (kindB 3 && keyB 0 0 0 && fieldB 3 0 && valueB 3 (i : Int)) = true; rfl
  have h2 : mayB cClear.m = true := by decide
  induction t with
  | zero => rfl
  | succ t ih => rw [ml]; split <;> simp [ih, h1, h2]
theorem len12 (x : Int) : ∃ (r : Int) (i : Nat), x.tmod 12 = r ∧ -12 < r ∧ r < 12 ∧ (r + 12) % 12 = (i : Int) ∧ i < 12 := by
  obtain ⟨r, i, h1, h2, h3, h4, h5⟩ := placeK x 12 (by omega)
  exact ⟨r, i, h1, by omega, by omega, h4, h5⟩

/-- What is held behind Do: the state, the key's box. -/
structure Hd (w W : World) (s gv gl gd q : Nat) (E : Nat → Prop) (a : Ab) (N : Nat) : Prop where
  h : Sh w W s gv gl gd E a N
  k : W.heap[q]? = some (k3O κ0)
theorem Hd.later {w W W' : World} {s gv gl gd q N : Nat} {E : Nat → Prop} {a : Ab} (h : Hd w W s gv gl gd q E a N) (hb : Below W.heap.size W W') : Hd w W' s gv gl gd q E a N := ⟨h.h.later hb, boxed_old h.k hb⟩
theorem Hd.four {w W : World} {s gv gl gd q N : Nat} {E : Nat → Prop} {a : Ab} (h : Hd w W s gv gl gd q E a N) : W.cell? ⟨s, 1, none⟩ = some (.pointer (some ⟨gl, 0, none⟩)) ∧ W.cell? ⟨q, 0, none⟩ = some (.int .i64 0) ∧ W.cell? ⟨q, 1, none⟩ = some (.int .i64 0) ∧ W.cell? ⟨q, 2, none⟩ = some (.int .i64 0) := by
  obtain ⟨_, c1, _⟩ := h.h.cells
  obtain ⟨y0, y1, y2⟩ := cells_three h.k
  exact ⟨c1, y0, y1, y2⟩

set_option maxRecDepth 100000 in
set_option maxHeartbeats 8000000 in
theorem walk (n0 : Int) (cl : Bool) (w : World) (_w0 : (Lit.int .i64 n0).wf = true) :
    Calls Tryz.prog 12 #[.int .i64 n0, .bool cl] w fun e w' => e = .returned (.bool true) ∧ Below w.heap.size w w' := by
  obtain ⟨r, i, er, br, br', sr, hi⟩ := len12 n0
  clear _w0
  obtain ⟨n, hn⟩ : ∃ n : Nat, 95 + i = n := ⟨_, rfl⟩
  have hni : (95 : Int) + (i : Int) = (n : Int) := by omega
  go_enter Tryz.func12, Tryz.ntmps12
  go_wp2_with fail
  refine (begun7_true _).mono ?_
  rintro e w1 ⟨rfl, hb1⟩
  go_wp2_with fail
  refine (stateNew w1).mono ?_
  rintro e w2 ⟨rfl, rfl⟩
  have hS := Sh.new w w1 hb1
  have hsz := newSt_size w1
  have HST : Hid (∀ W, Below (newSt w1).heap.size (newSt w1) W → Sh w W (w1.heap.size + 1 + 1 + 1) w1.heap.size (w1.heap.size + 1) (w1.heap.size + 1 + 1) (fun k => (newSt w1).heap.size ≤ k ∧ k < W.heap.size) ab0 0) := fun W hW => by
    have h1 : AbS (newSt w1) (fun k => w1.heap.size ≤ k ∧ k < w1.heap.size + 4) (w1.heap.size + 1 + 1 + 1) w1.heap.size (w1.heap.size + 1) (w1.heap.size + 1 + 1) ab0 0 := StaS.wide hS.st (fun k hk hl => ⟨hk.1, by omega⟩)
    have h2 := hS.later hW
    exact ⟨StaS.wide (StaS.later h1 hW) (fun k hk _ => ⟨hk.1, fun e => by have := e.1; omega⟩), fun k hk => hk.2, h2.gl, h2.gw, h2.b, h2.ok, h2.ll⟩
  have hgs : w1.heap.size ≤ (newSt w1).heap.size := by omega
  clear hS hsz hb1
  generalize newSt w1 = w5 at *
  generalize w1.heap.size + 1 + 1 + 1 = s at *
  generalize w1.heap.size + 1 + 1 = gd at *
  generalize w1.heap.size + 1 = gl at *
  generalize w1.heap.size = gv at *
  go_wp2_with fail
  refine (key_000 _).mono ?_
  rintro e w3 ⟨rfl, hb3⟩
  have hb4 := below_alloc w3 (k3O κ0) w3.heap.size (Nat.le_refl _)
  have HB4 : Hid (Below w5.heap.size w5 (w3.alloc (k3O κ0)) ∧ (w3.alloc (k3O κ0)).heap[w3.heap.size]? = some (k3O κ0) ∧ w5.heap.size ≤ w3.heap.size ∧ w3.heap.size < (w3.alloc (k3O κ0)).heap.size) := ⟨hb3.trans (hb4.mono hb3.size), heap_alloc_new w3 _, hb3.size, by simp⟩
  clear hb3 hb4
  have eO : k3O κ0 = .cells #[.int .i64 0, .int .i64 0, .int .i64 0] 28 := rfl
  go_wp2_with fail
  rw [eO] at HB4
  generalize w3.alloc (.cells #[.int .i64 0, .int .i64 0, .int .i64 0] 28) = w4 at *
  generalize w3.heap.size = q at *
  clear er br br' sr
  have hi95 : 95 ≤ n ∧ n ≤ 106 := by omega
  go_loopg [8, 9] n (fun gm vm ix wr => ∃ t : Nat, gm = n - t ∧ t ≤ n ∧ ix = .int .i64 t ∧ Hid (OwnM wr w4.heap.size vm ((ml cl t).map Mq.m) ∧ Below w4.heap.size w4 wr))
  case atStart => exact ⟨0, rfl, by omega, rfl, OwnM.nil _ _, Below.refl _ _⟩
  case round =>
    obtain ⟨t, rfl, ht, rfl, HO⟩ := hrel
    by_cases hlt : t < n
    · have hq := boxed_old HB4.out.2.1 HO.out.2
      obtain ⟨x0, x1, x2⟩ := cells_three (show wr.heap[q]? = some (.cells #[.int .i64 0, .int .i64 0, .int .i64 0] 28) from hq)
      have hlen := ml_len cl t
      -- one push behind a row
      have HPU : Hid (∀ (W : World) (v : Value) (ms : List Mt), OwnM W w4.heap.size v ms → Below w4.heap.size w4 W → Below w4.heap.size w4 (W.alloc (mtObj (cPush t).m)) ∧ OwnM (W.alloc (mtObj (cPush t).m)) w4.heap.size v ms) := fun W v ms h hb => by
        have := below_alloc W (mtObj (cPush t).m) W.heap.size (Nat.le_refl _)
        exact ⟨hb.trans (this.mono hb.size), h.later this⟩
      have HGR : Hid (∀ (W W' : World) (v : Value) (ms : List Mt), OwnM W w4.heap.size v ms → Below w4.heap.size w4 W → W.grownBy W' v.ownBlock → Below w4.heap.size w4 W' ∧ W'.heap[q]? = some (k3O κ0)) := fun W W' v ms h hb hg => by
        have h1 := hb.grown hg hb.size (fun k hk => (h.lt k hk).1)
        exact ⟨h1, boxed_old HB4.out.2.1 h1⟩
      cases cl with
      | false =>
        have HML : Hid (ml false (t + 1) = ml false t ++ [cPush t]) := rfl
        have ho := (HPU.out wr _ _ HO.out.1 HO.out.2)
        have hn1 : (mtObj (cPush t).m) = .cells #[.int .i64 3, .int .i64 0, .int .i64 0, .int .i64 0, .int .i64 0, .int .i64 t] 73 := rfl
        have hqn := heap_alloc_new wr (mtObj (cPush t).m)
        rw [hn1] at ho hqn
        have HOO := hide ho
        have HQN := hide hqn
        have HSZ : Hid (((ml false t).map Mq.m).length ≤ 1000000 ∧ w4.heap.size ≤ (wr.alloc (.cells #[.int .i64 3, .int .i64 0, .int .i64 0, .int .i64 0, .int .i64 0, .int .i64 t] 73)).heap.size) := ⟨by rw [List.length_map]; omega, HOO.out.1.size⟩
        clear ho hqn hq hlen hn1
        go_wp2_with (at_builtin; refine wpList_appM rfl (.tmp 36) (.tmp 40) rfl w4.heap.size _ _ rfl HOO.out.2 wr.heap.size (cPush t).m rfl HQN.out HSZ.out.1 HSZ.out.2 ?_)
        intro v3 w6 ho3 hg3
        have HN := hide (And.intro ho3 (HGR.out _ _ _ _ HOO.out.2 HOO.out.1 hg3).1)
        clear ho3 hg3 x0 x1 x2 HOO HQN HSZ HPU HGR HO
        go_wp2
        go_roundg (n - (t + 1))
        case measure => omega
        case rel => exact ⟨t + 1, rfl, by omega, by simp, by rw [HML.out, List.map_append]; exact HN.out⟩
      | true =>
        by_cases h60 : t = 60
        · have ht60 : (t : Int) = 60 := by omega
          have HML : Hid (ml true (t + 1) = (ml true t ++ [cClear]) ++ [cPush t]) := by show _ = _; rw [ml, if_pos (by simp [h60])]
          have hbA := below_alloc wr (mtObj cClear.m) wr.heap.size (Nat.le_refl _)
          have hn1 : (mtObj cClear.m) = .cells #[.int .i64 4, .int .i64 0, .int .i64 0, .int .i64 0, .int .i64 0, .int .i64 0] 73 := rfl
          have ho := And.intro (HO.out.2.trans (hbA.mono HO.out.2.size)) (HO.out.1.later hbA)
          have hqn := heap_alloc_new wr (mtObj cClear.m)
          rw [hn1] at ho hqn
          have HOO := hide ho
          have HQN := hide hqn
          have HSZ : Hid (((ml true t).map Mq.m).length ≤ 1000000 ∧ w4.heap.size ≤ (wr.alloc (.cells #[.int .i64 4, .int .i64 0, .int .i64 0, .int .i64 0, .int .i64 0, .int .i64 0] 73)).heap.size) := ⟨by rw [List.length_map]; omega, HOO.out.1.size⟩
          have H60 := hide h60
          clear h60
          clear ho hqn hq hlen hn1 hbA
          go_wp2_with (at_builtin; refine wpList_appM rfl (.tmp 31) (.tmp 34) rfl w4.heap.size _ _ rfl HOO.out.2 wr.heap.size cClear.m rfl HQN.out HSZ.out.1 HSZ.out.2 ?_)
          intro v3 w6 ho3 hg3
          have hx6 := HGR.out _ _ _ _ HOO.out.2 HOO.out.1 hg3
          have ho := (HPU.out w6 _ _ ho3 hx6.1)
          clear x0 x1 x2
          obtain ⟨x0, x1, x2⟩ := cells_three (show w6.heap[q]? = some (.cells #[.int .i64 0, .int .i64 0, .int .i64 0] 28) from hx6.2)
          have hn1 : (mtObj (cPush t).m) = .cells #[.int .i64 3, .int .i64 0, .int .i64 0, .int .i64 0, .int .i64 0, .int .i64 60] 73 := by rw [H60.out]; rfl
          have hqn := heap_alloc_new w6 (mtObj (cPush t).m)
          rw [hn1] at ho hqn
          have HOP := hide ho
          have HQP := hide hqn
          have hlen := ml_len true t
          have HSP : Hid (((ml true t).map Mq.m ++ [cClear.m]).length ≤ 1000000 ∧ w4.heap.size ≤ (w6.alloc (.cells #[.int .i64 3, .int .i64 0, .int .i64 0, .int .i64 0, .int .i64 0, .int .i64 60] 73)).heap.size) := ⟨by rw [List.length_append, List.length_map]; simp; omega, HOP.out.1.size⟩
          have HQP2 : Hid ((w6.alloc (.cells #[.int .i64 3, .int .i64 0, .int .i64 0, .int .i64 0, .int .i64 0, .int .i64 60] 73)).heap[w6.heap.size]? = some (mtObj (cPush t).m)) := by rw [hn1]; exact HQP.out
          clear ho hqn hlen hn1 ho3 hg3 hx6 HOO HQN HSZ HO
          go_wp2_with (at_builtin; refine wpList_appM rfl (.tmp 36) (.tmp 40) rfl w4.heap.size _ _ rfl HOP.out.2 w6.heap.size (cPush t).m rfl HQP2.out HSP.out.1 HSP.out.2 ?_)
          intro v4 w7 ho4 hg4
          have HN := hide (And.intro ho4 (HGR.out _ _ _ _ HOP.out.2 HOP.out.1 hg4).1)
          clear ho4 hg4 x0 x1 x2 HOP HQP HSP HPU HGR
          go_wp2
          go_roundg (n - (t + 1))
          case measure => omega
          case rel => exact ⟨t + 1, rfl, by omega, by rw [H60.out]; rfl, by rw [HML.out, List.map_append, List.map_append, List.append_assoc]; exact HN.out⟩
        · have ht60 : ¬ (t : Int) = 60 := by omega
          have HML : Hid (ml true (t + 1) = ml true t ++ [cPush t]) := by show _ = _; rw [ml, if_neg (by simp [h60])]
          have ho := (HPU.out wr _ _ HO.out.1 HO.out.2)
          have hn1 : (mtObj (cPush t).m) = .cells #[.int .i64 3, .int .i64 0, .int .i64 0, .int .i64 0, .int .i64 0, .int .i64 t] 73 := rfl
          have hqn := heap_alloc_new wr (mtObj (cPush t).m)
          rw [hn1] at ho hqn
          have HOO := hide ho
          have HQN := hide hqn
          have HSZ : Hid (((ml true t).map Mq.m).length ≤ 1000000 ∧ w4.heap.size ≤ (wr.alloc (.cells #[.int .i64 3, .int .i64 0, .int .i64 0, .int .i64 0, .int .i64 0, .int .i64 t] 73)).heap.size) := ⟨by rw [List.length_map]; omega, HOO.out.1.size⟩
          clear ho hqn hq hlen hn1
          go_wp2_with (at_builtin; refine wpList_appM rfl (.tmp 36) (.tmp 40) rfl w4.heap.size _ _ rfl HOO.out.2 wr.heap.size (cPush t).m rfl HQN.out HSZ.out.1 HSZ.out.2 ?_)
          intro v3 w6 ho3 hg3
          have HN := hide (And.intro ho3 (HGR.out _ _ _ _ HOO.out.2 HOO.out.1 hg3).1)
          clear ho3 hg3 x0 x1 x2 HOO HQN HSZ HPU HGR HO
          go_wp2
          go_roundg (n - (t + 1))
          case measure => omega
          case rel => exact ⟨t + 1, rfl, by omega, by simp, by rw [HML.out, List.map_append]; exact HN.out⟩
    · obtain rfl : t = n := by omega
      obtain ⟨pa, cc, rfl, hms⟩ := OwnM.ms HO.out.1
      have hbw : Below w5.heap.size w5 wr := HB4.out.1.trans (HO.out.2.mono HB4.out.1.size)
      have HH0 : Hid (Hd w wr s gv gl gd q (fun k => w5.heap.size ≤ k ∧ k < wr.heap.size) ab0 0) := ⟨HST.out wr hbw, boxed_old HB4.out.2.1 HO.out.2⟩
      have hpa : ∀ b o, pa = some ⟨b, o, none⟩ → b < gv ∨ (w5.heap.size ≤ b ∧ b < wr.heap.size) := fun b o e => by
        subst e
        have h1 := HO.out.1.lt b rfl
        have h2 := HB4.out.1.size
        exact Or.inr ⟨by omega, h1.2⟩
      have hlen := ml_len cl t
      obtain ⟨L, hL⟩ : ∃ L, ((ml cl t).map Mq.m).length = L := ⟨_, rfl⟩
      have hLl : L ≤ 1000 := by rw [← hL, List.length_map]; omega
      have hx : ∀ {W' : World}, Tch (fun k => gv ≤ k ∧ ¬ (w5.heap.size ≤ k ∧ k < wr.heap.size)) wr W' → W'.heap[q]? = some (k3O κ0) := fun ht => ht.old HH0.out.k (fun e => e.2 ⟨HB4.out.2.2.1, lt_of_heap HH0.out.k⟩)
      rw [hL] at hms ⊢
      cases cl with
      | true =>
        have hroom : roomB ab0.L (fun _ => none) (ml true t) = true := by rw [← hn]; exact room_yes ⟨i, hi⟩
        have hln : ((runQ ab0 (ml true t)).L κ0).length = 35 + i := by rw [← hn]; exact len_yes ⟨i, hi⟩
        have HD : Hid (Calls Tryz.prog 33 #[.pointer (some ⟨s, 0, none⟩), .slice pa L cc] wr fun e w' => e = .returned (.int .i64 0) ∧ Hid (Hd w w' s gv gl gd q (fun k => w5.heap.size ≤ k ∧ k < wr.heap.size) (runQ ab0 (ml true t)) L)) := by
          refine Calls.mono (HH0.out.h.do' pa L cc (ml true t) hms (by omega) hpa (ml_may true t) hroom) ?_
          rintro e w' ⟨r1, r2, r3⟩
          rw [Nat.zero_add] at r2
          exact ⟨r1, r2, hx r3⟩
        have hL35 : (35 : Int) + (i : Int) = (t : Int) - 60 := by omega
        clear hms hpa hroom HO hbw HH0 hx HST HB4
        go_wp2_with fail
        refine HD.out.mono ?_
        rintro e w8 ⟨rfl, H8⟩
        have s0 : w8.drew.cell? ⟨s, 1, none⟩ = some (.pointer (some ⟨gl, 0, none⟩)) ∧ w8.drew.cell? ⟨q, 0, none⟩ = some (.int .i64 0) ∧ w8.drew.cell? ⟨q, 1, none⟩ = some (.int .i64 0) ∧ w8.drew.cell? ⟨q, 2, none⟩ = some (.int .i64 0) := H8.out.four
        have HLI : Hid (Calls Tryz.prog 26 #[.pointer (some ⟨gl, 0, none⟩), .agg #[.int .i64 0, .int .i64 0, .int .i64 0]] w8.drew fun e w' => ∃ y c, e = .returned (.slice y (35 + i) c) ∧ Hid (Below w.heap.size w w') ∧ (w'.cell? ⟨s, 1, none⟩ = some (.pointer (some ⟨gl, 0, none⟩)) ∧ w'.cell? ⟨q, 0, none⟩ = some (.int .i64 0) ∧ w'.cell? ⟨q, 1, none⟩ = some (.int .i64 0) ∧ w'.cell? ⟨q, 2, none⟩ = some (.int .i64 0))) := by
          have h1 := H8.out.later (Below.refl _ _).drew
          refine Calls.mono (h1.h.list κ0) ?_
          rintro e w' ⟨y, c, r1, _, r2, r3⟩
          rw [hln] at r1
          exact ⟨y, c, r1, r2.b, (h1.later r3).four⟩
        have hcast : ((35 + i : Nat) : Int) = (t : Int) - 60 := by omega
        have hwr : IntKind.i64.wrap ((t : Int) - 60) = (t : Int) - 60 := by rw [IntKind.wrap_i64]; omega
        clear HD H8 hln
        generalize 35 + i = m at *
        go_wp2
        go_region_held3 (fun w' => w'.cell? ⟨s, 1, none⟩ = some (.pointer (some ⟨gl, 0, none⟩)) ∧ w'.cell? ⟨q, 0, none⟩ = some (.int .i64 0) ∧ w'.cell? ⟨q, 1, none⟩ = some (.int .i64 0) ∧ w'.cell? ⟨q, 2, none⟩ = some (.int .i64 0)) (first | with_reducible exact s0 | with_reducible exact s1) ((go_at_call 26; with_reducible refine HLI.out.mono ?_; rintro e w9 ⟨y9, c9, rfl, HB, s1⟩))
        all_goals
          clear HLI s0
          go_wp2
          go_ret
          exact ⟨by simp, HB.out⟩
      | false =>
        by_cases h100 : t ≤ 100
        · have hroom : roomB ab0.L (fun _ => none) (ml false t) = true := by rw [← hn]; exact (room_no ⟨i, hi⟩).trans (decide_eq_true (by show 95 + i ≤ 100; omega))
          have hln : ((runQ ab0 (ml false t)).L κ0).length = t := by rw [← hn]; exact len_no ⟨i, hi⟩
          have HD : Hid (Calls Tryz.prog 33 #[.pointer (some ⟨s, 0, none⟩), .slice pa L cc] wr fun e w' => e = .returned (.int .i64 0) ∧ Hid (Hd w w' s gv gl gd q (fun k => w5.heap.size ≤ k ∧ k < wr.heap.size) (runQ ab0 (ml false t)) L)) := by
            refine Calls.mono (HH0.out.h.do' pa L cc (ml false t) hms (by omega) hpa (ml_may false t) hroom) ?_
            rintro e w' ⟨r1, r2, r3⟩
            rw [Nat.zero_add] at r2
            exact ⟨r1, r2, hx r3⟩
          have hc : ¬ (100 : Int) < (t : Int) := by omega
          clear hms hpa hroom HO hbw HH0 hx HST HB4
          go_wp2_with fail
          refine HD.out.mono ?_
          rintro e w8 ⟨rfl, H8⟩
          have s0 : w8.drew.cell? ⟨s, 1, none⟩ = some (.pointer (some ⟨gl, 0, none⟩)) ∧ w8.drew.cell? ⟨q, 0, none⟩ = some (.int .i64 0) ∧ w8.drew.cell? ⟨q, 1, none⟩ = some (.int .i64 0) ∧ w8.drew.cell? ⟨q, 2, none⟩ = some (.int .i64 0) := H8.out.four
          have HLI : Hid (Calls Tryz.prog 26 #[.pointer (some ⟨gl, 0, none⟩), .agg #[.int .i64 0, .int .i64 0, .int .i64 0]] w8.drew fun e w' => ∃ y c, e = .returned (.slice y t c) ∧ Hid (Below w.heap.size w w') ∧ (w'.cell? ⟨s, 1, none⟩ = some (.pointer (some ⟨gl, 0, none⟩)) ∧ w'.cell? ⟨q, 0, none⟩ = some (.int .i64 0) ∧ w'.cell? ⟨q, 1, none⟩ = some (.int .i64 0) ∧ w'.cell? ⟨q, 2, none⟩ = some (.int .i64 0))) := by
            have h1 := H8.out.later (Below.refl _ _).drew
            refine Calls.mono (h1.h.list κ0) ?_
            rintro e w' ⟨y, c, r1, _, r2, r3⟩
            rw [hln] at r1
            exact ⟨y, c, r1, r2.b, (h1.later r3).four⟩
          clear HD H8 hln
          go_wp2
          go_region_held3 (fun w' => w'.cell? ⟨s, 1, none⟩ = some (.pointer (some ⟨gl, 0, none⟩)) ∧ w'.cell? ⟨q, 0, none⟩ = some (.int .i64 0) ∧ w'.cell? ⟨q, 1, none⟩ = some (.int .i64 0) ∧ w'.cell? ⟨q, 2, none⟩ = some (.int .i64 0)) (first | with_reducible exact s0 | with_reducible exact s1) ((go_at_call 26; with_reducible refine HLI.out.mono ?_; rintro e w9 ⟨y9, c9, rfl, HB, s1⟩))
          all_goals
            clear HLI s0
            go_wp2
            go_ret
            exact ⟨by simp, HB.out⟩
        · have hroom : roomB ab0.L (fun _ => none) (ml false t) = false := by rw [← hn]; exact (room_no ⟨i, hi⟩).trans (decide_eq_false (by show ¬ 95 + i ≤ 100; omega))
          have HD : Hid (Calls Tryz.prog 33 #[.pointer (some ⟨s, 0, none⟩), .slice pa L cc] wr fun e w' => e = .returned (.int .i64 4) ∧ Hid (Hd w w' s gv gl gd q (fun k => w5.heap.size ≤ k ∧ k < wr.heap.size) ab0 0)) := by
            refine Calls.mono (do_full _ s gv gl gd 0 ab0 pa L cc (ml false t) wr HH0.out.h.st HH0.out.h.ll hms (by omega) (ml_may false t) hroom) ?_
            rintro e w' ⟨r1, r2⟩
            exact ⟨r1, HH0.out.later r2⟩
          have hc : (100 : Int) < (t : Int) := by omega
          clear hms hpa hroom HO hbw HH0 hx HST HB4
          go_wp2_with fail
          refine HD.out.mono ?_
          rintro e w8 ⟨rfl, H8⟩
          have HT := hide (H8.out.h.told (by omega) (ks := []) ⟨List.Pairwise.nil, fun k => by simp [ab0]⟩)
          clear HD H8
          go_wp2_with fail
          refine HT.out.mono ?_
          rintro e w9 ⟨y9, c9, rfl, H9, _⟩
          have HB := hide H9.b
          clear HT H9
          go_wp2
          go_ret
          exact ⟨by simp, HB.out⟩

theorem own : ownKnob Tryz.prog.godebug = none := by kernel_rfl
theorem laidOut : laidOutB Tryz.prog = true := by kernel_rfl

set_option maxRecDepth 100000 in
theorem lifted (os : Os) (started : os.Started) (H : Type) (enc : TypeId × Value → H) :
    ReturnsInHanded {} Tryz.checked os 12 .any (Rows.stateLongSpec.pre6 enc Tryz.prog Tryz.f12 Rows.stateLongRow.domain false) (Rows.stateLongSpec.post enc Tryz.prog Tryz.f12 false true false false) := by
  refine returnsInHanded_of_change (C := Tryz.checked) own started (by kernel_rfl) Tryz.func12
    (ChangeSpec.witness6 (enc := enc) (C := Tryz.checked) false ⟨#[], #[.int .i64 0, .bool false], []⟩ 8 (by kernel_rfl) (by kernel_rfl) (by kernel_rfl) (by kernel_rfl)) ?_
  intro W base args ds gs before hval0 hW hcnd _
  have hval : ∀ (j : Nat) t v, Tryz.f12.params[j]? = some t → args[j]? = some v → Value.okWide Tryz.prog W .any base t v := hval0
  have hW' := hW
  obtain ⟨p, q, hA0, hV, rfl, hfz, hnd⟩ := hW
  have hA : DataW.TrodAll enc Tryz.prog W 0 (fun _ => true) true Tryz.f12.params.toList args.toList ds p := hA0
  rw [Tryz.params12] at hA hval
  obtain ⟨v0, vs0, d0, ds0, p0, q0, hargs, rfl, rfl, h0, r0⟩ := trodAll_cons hA
  obtain ⟨v1, vs1, d1, ds1, p1, q1, rfl, rfl, rfl, h1, r1⟩ := trodAll_cons r0
  obtain ⟨rfl, rfl, rfl⟩ := trodAll_nil r1
  obtain rfl : args = #[v0, v1] := by cases args; simp_all
  obtain ⟨rfl, rfl⟩ := trodVars_none hV
  obtain ⟨a0, rfl, rfl, rfl, w0⟩ := open_int Tryz.underlying3 (hval 0 3 v0 rfl rfl) h0
  obtain ⟨a1, rfl, rfl, rfl⟩ := open_bool Tryz.underlying4 (hval 1 4 v1 rfl rfl) h1
  clear hA0 hval0
  refine (walk a0 a1 W w0).mono fun e W' ⟨he, bel⟩ => ?_
  subst he
  exact ⟨_, rfl, _, _, _, [], _, [], hW', trodAll_mk1 (shut_bool Tryz.underlying4 _), (trodAll_cons_mk (shut_int Tryz.underlying3 w0) (trodAll_cons_mk (shut_bool Tryz.underlying4 _) trodAll_mk0)), rfl, bel.frame _, fun h => by cases h⟩

theorem over : Rows.stateLongRow.holds Tryz.pinned (OpenSpec.ofChange Rows.stateLongSpec) :=
  OpenClaim.holds_of_wide 12 Tryz.f12 rfl rfl rfl rfl rfl rfl rfl ⟨rfl, rfl, rfl, rfl, rfl⟩ rfl rfl rfl rfl rfl (by kernel_rfl) Tryz.func12 (by kernel_rfl)
    (of_decide_eq_true (by kernel_rfl)) (by unfold Func.isWrapper; first | (rw [if_pos (by decide +kernel)]; kernel_rfl) | (rw [if_neg (by decide +kernel)]; exact ⟨rfl, rfl⟩))
    (fun os started H enc _ => lifted os started H enc)

theorem proved : Rows.StateLongSaid := over
#print axioms proved
end Go.Proofs.YtkchfbigkecodaaGreat.stateLong
