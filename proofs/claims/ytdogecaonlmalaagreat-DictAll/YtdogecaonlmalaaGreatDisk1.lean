/- What package disk does, as begun uses it: the parts. -/
import Derived.Test.YtdogecaonlmalaaGreatStore1
namespace Go.Proofs.YtdogecaonlmalaaGreat
open Go.RowKit

def dObj (nm sm : Option Nat) (sv lv : Value) : Obj := .cells #[.map nm, .map sm, sv, lv] 155 (0, 0)

theorem d_cells {w : World} {g : Nat} {nm sm : Option Nat} {sv lv : Value} (h : w.heap[g]? = some (dObj nm sm sv lv)) :
    w.cell? ⟨g, 0, none⟩ = some (.map nm) ∧ w.cell? ⟨g, 1, none⟩ = some (.map sm) ∧ w.cell? ⟨g, 2, none⟩ = some sv ∧ w.cell? ⟨g, 3, none⟩ = some lv := by
  refine ⟨?_, ?_, ?_, ?_⟩ <;> simp [World.cell?, h, dObj]
theorem d_free {w : World} {g : Nat} {nm sm : Option Nat} {sv lv : Value} (h : w.heap[g]? = some (dObj nm sm sv lv)) (j : Nat) : w.frozen? ⟨g, j, none⟩ = false := by
  simp [World.frozen?, h, dObj]
theorem d_set {w : World} {g : Nat} {nm sm : Option Nat} {sv lv : Value} (h : w.heap[g]? = some (dObj nm sm sv lv)) (m : Option Nat) (x : Value) :
    (w.setCell ⟨g, 0, none⟩ (.map m)).heap[g]? = some (dObj m sm sv lv) ∧ (w.setCell ⟨g, 1, none⟩ (.map m)).heap[g]? = some (dObj nm m sv lv) ∧
    (w.setCell ⟨g, 2, none⟩ x).heap[g]? = some (dObj nm sm x lv) ∧ (w.setCell ⟨g, 3, none⟩ x).heap[g]? = some (dObj nm sm sv x) := by
  obtain ⟨hlt, he⟩ := Array.getElem?_eq_some_iff.1 h
  refine ⟨?_, ?_, ?_, ?_⟩ <;> simp [World.setCell, Array.getElem_modify, hlt, he, dObj]

theorem und101 : Tryz.prog.underlying 152 = some (.map 9 112) := by kernel_rfl

set_option maxRecDepth 100000 in
theorem diskNew_any (w : World) :
    Calls Tryz.prog 61 #[] w fun e w' => e = .returned (.pointer (some ⟨w.heap.size, 0, none⟩)) ∧ w' = w.alloc (dObj none none (.slice none 0 0) (.slice none 0 0)) := by
  go_enter Tryz.func61, Tryz.ntmps61
  go_wp2
  go_ret
  exact ⟨rfl, rfl⟩

/-- Only the blocks of S have turned, and there may be new ones. -/
structure Tch (S : Nat → Prop) (w w' : World) : Prop where
  os : w'.os = w.os
  tape : w'.tape = w.tape
  output : w'.output = w.output
  size : w.heap.size ≤ w'.heap.size
  block : ∀ k, k < w.heap.size → ¬ S k → w'.heap[k]? = w.heap[k]?

theorem Tch.trans {S : Nat → Prop} {a b c : World} (h : Tch S a b) (k : Tch S b c) : Tch S a c :=
  ⟨k.os.trans h.os, k.tape.trans h.tape, k.output.trans h.output, Nat.le_trans h.size k.size, fun i hi hs => (k.block i (Nat.lt_of_lt_of_le hi h.size) hs).trans (h.block i hi hs)⟩
theorem Tch.mono {S S' : Nat → Prop} {a b : World} (h : Tch S a b) (hs : ∀ k, k < a.heap.size → S k → S' k) : Tch S' a b :=
  ⟨h.os, h.tape, h.output, h.size, fun i hi hn => h.block i hi (fun hS => hn (hs i hi hS))⟩
theorem Tch.of {a b : World} {row : Option Nat} (h : a.grownBy b row) : Tch (fun k => some k = row) a b := ⟨h.os, h.tape, h.output, h.size, fun k hk hn => h.block k hk hn⟩
theorem Tch.below {S : Nat → Prop} {a b : World} {B : Nat} (h : Tch S a b) (hs : ∀ k, k < B → ¬ S k) (hB : B ≤ a.heap.size) : Below B a b :=
  ⟨h.os, h.tape, h.output, h.size, fun k hk => h.block k (by omega) (hs k hk)⟩
theorem Below.tch {S : Nat → Prop} {a b : World} (h : Below a.heap.size a b) : Tch S a b := ⟨h.os, h.tape, h.output, h.size, fun k hk _ => h.block k hk⟩
theorem Tch.old {S : Nat → Prop} {a b : World} {g : Nat} {o : Obj} (h : Tch S a b) (hg : a.heap[g]? = some o) (hs : ¬ S g) : b.heap[g]? = some o := (h.block g (lt_of_heap hg) hs).trans hg
theorem Tch.owns {S : Nat → Prop} {a b : World} {B : Nat} {v : Value} {l : List Int} (h : Tch S a b) (ho : a.ownsInts B 5 .u8 v l) (hs : ∀ k, v.ownBlock = some k → ¬ S k) : b.ownsInts B 5 .u8 v l := by
  obtain ⟨⟨h1, h2⟩, h3⟩ := ho
  refine ⟨⟨h1, ?_⟩, h3⟩
  rcases h2 with h2 | ⟨g, cap, cur, rfl, hg, hh, r⟩
  · exact Or.inl h2
  · exact Or.inr ⟨g, cap, cur, rfl, hg, h.old hh (hs g rfl), r⟩

def fmap (s : ByteArray) (v : Value) : Obj := .map #[⟨.string s, v, 0⟩] 1

set_option maxRecDepth 100000 in
set_option maxHeartbeats 400000 in
theorem filesAdd_first (mb : Nat) (s : ByteArray) (a : Option Addr) (n cap : Nat) (l : List Int) (w : World) (hm : w.heap[mb]? = some (.map #[] 0)) (h : Bs w a n cap l) (hn : n ≤ 1000) :
    Calls Tryz.prog 100 #[.map (some mb), .string s, .slice a n cap] w fun e w' => ∃ v, e = .returned (.tuple #[]) ∧ w'.heap[mb]? = some (fmap s v) ∧ w'.ownsInts w.heap.size 5 .u8 v l ∧ w.grownBy w' (some mb) := by
  have lk := look_empty und101 s false w hm
  simp only [if_false, Bool.false_eq_true] at lk
  have hlt := lt_of_heap hm
  have HM := hide hm
  clear hm
  go_enter Tryz.func100, Tryz.ntmps100
  go_wp2_with (at_builtin; refine wpList_app rfl (.tmp 10) (.tmp 11) rfl w.heap.size _ [] rfl (World.ownsInts_nil _ _ _ _) a n cap l rfl h (by simp; omega) (Nat.le_refl _) ?_)
  intro v1 w1 hown1 hg1 _
  have hg1' : w.grownBy w1 none := hg1
  obtain ⟨w2, hrun, hm2, hgr2⟩ := put_first und101 s v1 w1 ((hg1'.block mb hlt (by simp)).trans HM.out)
  have HO : Hid (w2.ownsInts w.heap.size 5 .u8 v1 l) := by
    have := (Tch.of hgr2).owns hown1 (fun k hk e => by have := (hown1.1.lt k hk).1; simp at e; omega)
    exact hide (by simpa using this)
  have HM2 := hide hm2
  have HG : Hid (w.grownBy w2 (some mb)) := ⟨hgr2.os.trans hg1'.os, hgr2.tape.trans hg1'.tape, hgr2.output.trans hg1'.output, Nat.le_trans hg1'.size hgr2.size, fun k hk hne => (hgr2.block k (Nat.lt_of_lt_of_le hk hg1'.size) hne).trans (hg1'.block k hk (by simp))⟩
  clear hg1 hg1' hown1 hm2 hgr2 HM lk h
  go_wp2
  go_end0
  exact ⟨v1, rfl, HM2.out, HO.out, HG.out⟩

set_option maxRecDepth 100000 in
set_option maxHeartbeats 400000 in
theorem filesAdd_more (B mb : Nat) (s : ByteArray) (v : Value) (l0 : List Int) (a : Option Addr) (n cap : Nat) (l : List Int) (w : World) (hm : w.heap[mb]? = some (fmap s v)) (ho : w.ownsInts B 5 .u8 v l0) (hB : B ≤ w.heap.size) (h : Bs w a n cap l) (hn : n ≤ 1000) (hl : l0.length ≤ 1000) :
    Calls Tryz.prog 100 #[.map (some mb), .string s, .slice a n cap] w fun e w' => ∃ v', e = .returned (.tuple #[]) ∧ w'.heap[mb]? = some (fmap s v') ∧ w'.ownsInts B 5 .u8 v' (l0 ++ l) ∧ Tch (fun k => k = mb ∨ some k = v.ownBlock) w w' := by
  have lk := look_one und101 s false w hm
  simp only [if_false, Bool.false_eq_true] at lk
  have hlt := lt_of_heap hm
  have hvm : v.ownBlock ≠ some mb := by
    intro e
    rcases ho.1.2 with ⟨rfl, _⟩ | ⟨g, cap, cur, rfl, _, hh, _⟩
    · cases e
    · simp [Value.ownBlock] at e
      subst e
      rw [hm] at hh
      simp [fmap] at hh
  have HM := hide hm
  have HV := hide hvm
  clear hm hvm
  go_enter Tryz.func100, Tryz.ntmps100
  go_wp2_with (at_builtin; refine wpList_app rfl (.tmp 10) (.tmp 11) rfl B _ l0 rfl ho a n cap l rfl h (by omega) hB ?_)
  intro v1 w1 hown1 hg1 hloc
  have hm1 := (hg1.block mb hlt (fun e => HV.out e.symm)).trans HM.out
  obtain ⟨w2, hrun, hm2, hgr2⟩ := put_again und101 s v v1 w1 hm1
  have HO : Hid (w2.ownsInts B 5 .u8 v1 (l0 ++ l)) := by
    refine (Tch.of hgr2).owns hown1 (fun k hk e => ?_)
    simp at e
    subst e
    rcases hloc with e | e
    · exact HV.out (e.symm.trans hk)
    · rw [hk] at e; simp at e; omega
  have HM2 := hide hm2
  have HT : Hid (Tch (fun k => k = mb ∨ some k = v.ownBlock) w w2) :=
    ((Tch.of hg1).mono (fun k _ e => Or.inr e)).trans ((Tch.of hgr2).mono (fun k _ e => Or.inl (by simpa using e)))
  clear hg1 hown1 hm2 hgr2 HM lk h hloc hm1 ho
  go_wp2
  go_end0
  exact ⟨v1, rfl, HM2.out, HO.out, HT.out⟩

theorem infoC : (Tryz.prog.info? 187).map (fun i => (i.zero, i.size, i.bytes)) = some (some (.agg #[.int .i64 0, .string ⟨#[]⟩, .int .i64 0]), 3, 32) := by kernel_rfl

theorem cells3 {w : World} {g : Nat} {x y z : Value} {T : TypeId} (h : w.heap[g]? = some (.cells #[x, y, z] T (0, 0))) : w.cell? ⟨g, 0, none⟩ = some x ∧ w.cell? ⟨g, 1, none⟩ = some y ∧ w.cell? ⟨g, 2, none⟩ = some z := by
  refine ⟨?_, ?_, ?_⟩ <;> simp [World.cell?, h]

/-- One change noted: an append of n bytes to s. -/
def Noted (w : World) (gs : Nat) (s : ByteArray) (n : Nat) : Prop :=
  w.cell? ⟨gs, 0, none⟩ = some (.int .i64 0) ∧ w.cell? ⟨gs, 1, none⟩ = some (.string s) ∧ w.cell? ⟨gs, 2, none⟩ = some (.int .i64 n)

set_option maxRecDepth 100000 in
set_option maxHeartbeats 800000 in
theorem note_first (g : Nat) (nm sm : Option Nat) (lv : Value) (s : ByteArray) (n : Nat) (w : World) (hg : w.heap[g]? = some (dObj nm sm (.slice none 0 0) lv)) (h0 : 1 ≤ s.size) (hs : s.size ≤ 40) :
    Calls Tryz.prog 101 #[.pointer (some ⟨g, 0, none⟩), .int .i64 0, .string s, .int .i64 n] w fun e w' => ∃ gs cs, e = .returned (.string s) ∧ w'.heap[g]? = some (dObj nm sm (.slice (some ⟨gs, 0, none⟩) 1 cs) lv) ∧ w.heap.size ≤ gs ∧ Noted w' gs s n ∧ w.grownBy w' (some g) := by
  obtain ⟨i0, hi, hz0, hz1, hz2⟩ := info_parts infoC
  have hlt := lt_of_heap hg
  have HG := hide hg
  clear hg
  go_enter Tryz.func101, Tryz.ntmps101
  go_wp2_with fail
  refine (clone_any s _ (by omega) (by omega)).mono ?_
  rintro e w1 ⟨rfl, hb1⟩
  have hg1 := (hb1.block g hlt).trans HG.out
  obtain ⟨c0, c1, c2, c3⟩ := d_cells hg1
  have HG1 := hide hg1
  clear hg1
  go_wp2_with (at_builtin; refine wpList_append_own_at _ rfl (.tmp 15) (.tmp 20) 153 rfl w.heap.size 187 i0 _ 3 32 Tryz.underlying153 hi hz0 hz1 hz2 rfl (by decide) (.slice none 0 0) 0 [] rfl (World.ownsRow_nil _ _ _ _) ⟨w1.heap.size, 0, none⟩ 1 1 [.int .i64 0, .string s, .int .i64 n] rfl rfl ?_ ?_ (by decide) (by omega) (by simp; have := hb1.size; omega) ?_)
  · intro j u hj
    rw [Go.Proofs.YtdogecaonlmalaaGreat.add_none]
    have hh := heap_alloc_new w1 (Obj.cells #[Value.int IntKind.i64 0, Value.string s, Value.int IntKind.i64 ↑n] 187)
    rcases j with _ | _ | _ | j
    · simp at hj; subst hj; exact (cells3 hh).1
    · simp at hj; subst hj; exact (cells3 hh).2.1
    · simp at hj; subst hj; exact (cells3 hh).2.2
    · simp at hj
  · intro u hu
    simp at hu
    rcases hu with rfl | rfl | rfl <;> rfl
  · intro v2 w2 hown2 hg2 _ hloc
    obtain ⟨gs, cs, rfl, hgs, hn2⟩ : ∃ gs cs, v2 = .slice (some ⟨gs, 0, none⟩) 1 cs ∧ w.heap.size ≤ gs ∧ Noted w2 gs s n := by
      rcases hown2.2 with ⟨_, h⟩ | ⟨gs, cap, cur, rfl, hgs, hh, _, _, _, ht⟩
      · cases h
      · refine ⟨gs, cap, rfl, hgs, ?_⟩
        have e : ∀ j, j < 3 → cur[j]? = [Value.int IntKind.i64 0, Value.string s, Value.int IntKind.i64 ↑n][j]? := by
          intro j hj
          rw [← ht, List.getElem?_take, if_pos (by omega)]
          simp
        refine ⟨?_, ?_, ?_⟩
        · have := e 0 (by omega); simp at this; simp [World.cell?, hh, this]
        · have := e 1 (by omega); simp at this; simp [World.cell?, hh, this]
        · have := e 2 (by omega); simp at this; simp [World.cell?, hh, this]
    have hg2' : (w1.alloc (Obj.cells #[Value.int IntKind.i64 0, Value.string s, Value.int IntKind.i64 ↑n] 187)).grownBy w2 none := hg2
    have hgr2 : w.grownBy w2 none := grown_trans (below_grown hb1 none) (grown_trans (World.grownBy_alloc _ _ _) hg2')
    have hgd2 : w2.heap[g]? = some (dObj nm sm (.slice none 0 0) lv) := (hgr2.block g hlt (by simp)).trans HG.out
    clear c0 c1 c2 c3
    obtain ⟨c0, c1, c2, c3⟩ := d_cells hgd2
    have fr := d_free hgd2
    have HS := hide (d_set hgd2 none (.slice (some ⟨gs, 0, none⟩) 1 cs)).2.2.1
    have HN : Hid (Noted (w2.setCell ⟨g, 2, none⟩ (.slice (some ⟨gs, 0, none⟩) 1 cs)) gs s n) := by
      refine ⟨?_, ?_, ?_⟩
      · rw [World.cell?_setCell_other _ _ _ _ (by simp <;> omega)]; exact hn2.1
      · rw [World.cell?_setCell_other _ _ _ _ (by simp <;> omega)]; exact hn2.2.1
      · rw [World.cell?_setCell_other _ _ _ _ (by simp <;> omega)]; exact hn2.2.2
    have HT : Hid (w.grownBy (w2.setCell ⟨g, 2, none⟩ (.slice (some ⟨gs, 0, none⟩) 1 cs)) (some g)) :=
      grown_trans ⟨hgr2.os, hgr2.tape, hgr2.output, hgr2.size, fun k hk _ => hgr2.block k hk (by simp)⟩ (grown_setCell _ _ _ _)
    clear hown2 hg2 hg2' hgr2 hgd2 hn2 hloc hi hz0 hz1 hz2
    go_wp2
    go_ret
    exact ⟨gs, cs, rfl, HS.out, hgs, HN.out, HT.out⟩

theorem mm_world {w : World} {g : Nat} {sv lv : Value} (hg : w.heap[g]? = some (dObj none none sv lv)) (m1 m2 : Nat) (hs : ((w.setCell ⟨g, 0, none⟩ (.map (some m1))).setCell ⟨g, 1, none⟩ (.map (some m2))).heap.size = w.heap.size) :
    m1 = w.heap.size → m2 = w.heap.size + 1 →
    ((((w.setCell ⟨g, 0, none⟩ (.map (some m1))).setCell ⟨g, 1, none⟩ (.map (some m2))).alloc (.map #[] 0)).alloc (.map #[] 0)).heap[g]? = some (dObj (some m1) (some m2) sv lv) ∧ w.heap.size ≤ m1 ∧ w.heap.size ≤ m2 ∧ m1 ≠ m2 ∧
    ((((w.setCell ⟨g, 0, none⟩ (.map (some m1))).setCell ⟨g, 1, none⟩ (.map (some m2))).alloc (.map #[] 0)).alloc (.map #[] 0)).heap[m1]? = some (.map #[] 0) ∧
    ((((w.setCell ⟨g, 0, none⟩ (.map (some m1))).setCell ⟨g, 1, none⟩ (.map (some m2))).alloc (.map #[] 0)).alloc (.map #[] 0)).heap[m2]? = some (.map #[] 0) ∧
    w.grownBy ((((w.setCell ⟨g, 0, none⟩ (.map (some m1))).setCell ⟨g, 1, none⟩ (.map (some m2))).alloc (.map #[] 0)).alloc (.map #[] 0)) (some g) := by
  rintro e1 e2
  have hlt := lt_of_heap hg
  have h1 := (d_set hg (some m1) (.slice none 0 0)).1
  have h2 := (d_set h1 (some m2) (.slice none 0 0)).2.1
  have hgr := grown_trans (grown_setCell w g 0 (.map (some m1))) (grown_setCell _ g 1 (.map (some m2)))
  generalize ((w.setCell ⟨g, 0, none⟩ (.map (some m1))).setCell ⟨g, 1, none⟩ (.map (some m2))) = W at *
  have s1 : (W.alloc (.map #[] 0)).heap.size = W.heap.size + 1 := by simp
  refine ⟨?_, by omega, by omega, by omega, ?_, ?_, grown_trans hgr (grown_trans (World.grownBy_alloc _ _ _) (World.grownBy_alloc _ _ _))⟩
  · rw [Below.heap_alloc _ _ _ (by omega), Below.heap_alloc _ _ _ (by omega)]; exact h2
  · rw [Below.heap_alloc _ _ _ (by omega), e1, ← hs]; exact heap_alloc_new W _
  · rw [e2, ← hs, ← s1]; exact heap_alloc_new _ _

set_option maxRecDepth 100000 in
set_option maxHeartbeats 400000 in
theorem makeMaps_first (g : Nat) (sv lv : Value) (w : World) (hg : w.heap[g]? = some (dObj none none sv lv)) :
    Calls Tryz.prog 99 #[.pointer (some ⟨g, 0, none⟩)] w fun e w' => ∃ m1 m2, e = .returned (.tuple #[]) ∧ w'.heap[g]? = some (dObj (some m1) (some m2) sv lv) ∧ w.heap.size ≤ m1 ∧ w.heap.size ≤ m2 ∧ m1 ≠ m2 ∧ w'.heap[m1]? = some (.map #[] 0) ∧ w'.heap[m2]? = some (.map #[] 0) ∧ w.grownBy w' (some g) := by
  have hmm := @run_makeMap Tryz.prog
  have hnm := fun (W : World) (r : Option Nat) => run_eql_map_nil (P := Tryz.prog) W 152 9 112 r und101
  obtain ⟨c0, c1, c2, c3⟩ := d_cells hg
  have fr := d_free hg
  have hlt := lt_of_heap hg
  go_enter Tryz.func99, Tryz.ntmps99
  go_wp2
  go_end0
  refine ⟨w.heap.size, w.heap.size + 1, rfl, ?_⟩
  exact mm_world hg _ _ (by simp [World.setCell]) rfl rfl

set_option maxRecDepth 100000 in
set_option maxHeartbeats 400000 in
theorem makeMaps_more (g m1 : Nat) (sm : Option Nat) (sv lv : Value) (w : World) (hg : w.heap[g]? = some (dObj (some m1) sm sv lv)) :
    Calls Tryz.prog 99 #[.pointer (some ⟨g, 0, none⟩)] w fun e w' => e = .returned (.tuple #[]) ∧ w' = w := by
  have hnm := fun (W : World) (r : Option Nat) => run_eql_map_nil (P := Tryz.prog) W 152 9 112 r und101
  obtain ⟨c0, c1, c2, c3⟩ := d_cells hg
  clear hg
  go_enter Tryz.func99, Tryz.ntmps99
  go_wp2
  go_end0
  exact ⟨rfl, rfl⟩

/-- The disk behind its first Append. -/
def S1 (B g : Nat) (s : ByteArray) (l : List Int) (w : World) : Prop :=
  ∃ m1 m2 v gs cs lv, w.heap[g]? = some (dObj (some m1) (some m2) (.slice (some ⟨gs, 0, none⟩) 1 cs) lv) ∧ w.heap[m1]? = some (fmap s v) ∧ w.heap[m2]? = some (.map #[] 0) ∧ B ≤ m1 ∧ B ≤ m2 ∧ m1 ≠ m2 ∧ B ≤ gs ∧ Noted w gs s l.length ∧ w.ownsInts B 5 .u8 v l ∧ w.ownsInts B 5 .u8 lv l

/-- Ahead of the note of the first Append. -/
def S0 (B g m1 m2 : Nat) (lv : Value) (l : List Int) (w : World) : Prop :=
  w.heap[g]? = some (dObj (some m1) (some m2) (.slice none 0 0) lv) ∧ w.heap[m1]? = some (.map #[] 0) ∧ w.heap[m2]? = some (.map #[] 0) ∧ w.ownsInts B 5 .u8 lv l

theorem kind_owns {w : World} {B g : Nat} {v : Value} {l : List Int} {o : Obj} (h : w.ownsInts B 5 .u8 v l) (hg : w.heap[g]? = some o) (ho : ∀ c, o ≠ .cells c 5 (0, 0)) : v.ownBlock ≠ some g := by
  intro e
  rcases h.1.2 with ⟨rfl, _⟩ | ⟨g', cap, cur, rfl, _, hh, _⟩
  · cases e
  · simp [Value.ownBlock] at e
    subst e
    rw [hg] at hh
    exact ho _ (Option.some.inj hh)

theorem dObj_kind (nm sm : Option Nat) (sv lv : Value) : ∀ c, dObj nm sm sv lv ≠ .cells c 5 (0, 0) := by
  intro c e; simp [dObj] at e
theorem fmap_kind (s : ByteArray) (v : Value) : ∀ c, fmap s v ≠ .cells c 5 (0, 0) := by
  intro c e; simp [fmap] at e

theorem ap_note {B g m1 m2 : Nat} {lv : Value} {l : List Int} {s : ByteArray} {w : World} (h0 : 1 ≤ s.size) (hs : s.size ≤ 40) (h : S0 B g m1 m2 lv l w) (hm1 : m1 ≠ g) (hm2 : m2 ≠ g) (hB : B ≤ w.heap.size) (n : Nat) (hn : n = l.length) :
    Calls Tryz.prog 101 #[.pointer (some ⟨g, 0, none⟩), .int .i64 0, .string s, .int .i64 n] w fun e w' => e = .returned (.string s) ∧ w'.cell? ⟨g, 0, none⟩ = some (.map (some m1)) ∧
      Hid (∃ gs cs, w'.heap[g]? = some (dObj (some m1) (some m2) (.slice (some ⟨gs, 0, none⟩) 1 cs) lv) ∧ w'.heap[m1]? = some (.map #[] 0) ∧ w'.heap[m2]? = some (.map #[] 0) ∧ w'.ownsInts B 5 .u8 lv l ∧ B ≤ gs ∧ Noted w' gs s l.length ∧ gs ≠ m1) ∧ w.grownBy w' (some g) := by
  obtain ⟨h1, h2, h3, h4⟩ := h
  refine (note_first g (some m1) (some m2) lv s n w h1 h0 hs).mono ?_
  rintro e w1 ⟨gs, cs, rfl, k1, k2, k3, k4⟩
  have ho := (Tch.of k4).owns h4 (fun k hk e => kind_owns h4 h1 (dObj_kind _ _ _ _) (by rw [hk, e]))
  subst hn
  refine ⟨rfl, (d_cells k1).1, ⟨gs, cs, k1, (Tch.of k4).old h2 (by simpa using hm1), (Tch.of k4).old h3 (by simpa using hm2), ho, by omega, k3, ?_⟩, k4⟩
  have := lt_of_heap h2
  omega

theorem ap_add {B g m1 m2 : Nat} {lv : Value} {l : List Int} {s : ByteArray} {w : World} (a : Option Addr) (n cap : Nat) (hB1 : B ≤ m1) (hB2 : B ≤ m2) (h12 : m1 ≠ m2) (hg1 : m1 ≠ g) (hB : B ≤ w.heap.size)
    (h : ∃ gs cs, w.heap[g]? = some (dObj (some m1) (some m2) (.slice (some ⟨gs, 0, none⟩) 1 cs) lv) ∧ w.heap[m1]? = some (.map #[] 0) ∧ w.heap[m2]? = some (.map #[] 0) ∧ w.ownsInts B 5 .u8 lv l ∧ B ≤ gs ∧ Noted w gs s l.length ∧ gs ≠ m1)
    (hbs : Bs w a n cap l) (hn : n ≤ 1000) :
    Calls Tryz.prog 100 #[.map (some m1), .string s, .slice a n cap] w fun e w' => e = .returned (.tuple #[]) ∧ Hid (S1 B g s l w') ∧ w.grownBy w' (some m1) := by
  obtain ⟨gs, cs, h1, h2, h3, h4, h5, h6, h7⟩ := h
  refine (filesAdd_first m1 s a n cap l w h2 hbs hn).mono ?_
  rintro e w1 ⟨v, rfl, k1, k2, k3⟩
  refine ⟨rfl, ⟨m1, m2, v, gs, cs, lv, (Tch.of k3).old h1 (by simpa using hg1.symm), k1, (Tch.of k3).old h3 (by simpa using h12.symm), hB1, hB2, h12, h5, ?_, owns_mono k2 hB, ?_⟩, k3⟩
  · exact ⟨k3.cell h6.1 (by simpa using h7), k3.cell h6.2.1 (by simpa using h7), k3.cell h6.2.2 (by simpa using h7)⟩
  · exact (Tch.of k3).owns h4 (fun k hk e => kind_owns h4 h2 (by intro c e; simp at e) (by rw [hk, e]))
end Go.Proofs.YtdogecaonlmalaaGreat
