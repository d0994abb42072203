/- What package mut's functions do to memory, at the change that begun writes. -/
import Derived.Test.YtdogecaonlmalaaGreatFrame3
namespace Go.Proofs.YtdogecaonlmalaaGreat
open Go.RowKit

/-- What is written behind v: only v's own row and new blocks. -/
def Wrote (B : Nat) (w w' : World) (v v' : Value) (l : List Int) : Prop :=
  w'.ownsInts B 5 .u8 v' l ∧ w.grownBy w' v.ownBlock ∧ (v'.ownBlock = v.ownBlock ∨ ∃ k, v'.ownBlock = some k ∧ w.heap.size ≤ k)

theorem wrote_app {B : Nat} {w w1 w2 : World} {v v2 : Value} {l : List Int} (hb : Below w.heap.size w w1) (hown : w2.ownsInts B 5 .u8 v2 l) (hg : w1.grownBy w2 v.ownBlock) (hloc : v2.ownBlock = v.ownBlock ∨ v2.ownBlock = some w1.heap.size) : Wrote B w w2 v v2 l :=
  ⟨hown, grown_trans (below_grown hb _) hg, hloc.imp id (fun h => ⟨_, h, hb.size⟩)⟩

set_option maxRecDepth 100000 in
set_option maxHeartbeats 400000 in
theorem writeNumber_any (B : Nat) (v : Value) (l : List Int) (n : Nat) (w : World) (h : w.ownsInts B 5 .u8 v l) (hB : B ≤ w.heap.size) (hl : l.length ≤ 1099511627776) (hn : n < 18446744073709551616) :
    Calls Tryz.prog 134 #[v, .int .u64 n] w fun e w' => ∃ v', e = .returned v' ∧ Wrote B w w' v v' (l ++ M.numB 9 n) := by
  go_enter Tryz.func134, Tryz.ntmps134
  go_wp2_with fail
  refine (put_nil n _ hn).mono ?_
  rintro e w1 ⟨a1, k1, c1, L1, rfl, hbs1, HL1, h1, h10, hb1⟩
  have hv := owns_later h hb1
  have hB1 := Nat.le_trans hB hb1.size
  go_wp2_with (at_builtin; refine wpList_app rfl (.tmp 5) (.tmp 7) rfl B _ l rfl hv a1 k1 c1 L1 rfl hbs1 (by omega) hB1 ?_)
  intro v2 w2 hown2 hg2 hloc
  rw [HL1.out] at hown2
  have HR := hide (wrote_app hb1 hown2 hg2 hloc)
  clear hg2 hown2 hloc
  go_wp2
  go_ret
  exact ⟨_, rfl, HR.out⟩

theorem writeNum1 (B : Nat) (v : Value) (l : List Int) (n : Nat) (w : World) (h : w.ownsInts B 5 .u8 v l) (hB : B ≤ w.heap.size) (hl : l.length ≤ 1099511627776) (hn : n < 128) (m : Int) (hm : m = n) :
    Calls Tryz.prog 134 #[v, .int .u64 m] w fun e w' => ∃ v', e = .returned v' ∧ Wrote B w w' v v' (l ++ [m]) := by
  subst hm
  refine (writeNumber_any B v l n w h hB hl (by omega)).mono ?_
  rintro e w' ⟨v', rfl, h1⟩
  rw [M.numB_lt _ _ hn] at h1
  exact ⟨v', rfl, h1⟩

/-- The change that begun writes. -/
def xMut : Value := .agg #[.int .i64 5, .int .i64 1, .int .i64 1, .int .i64 5, .int .i64 3, .int .i64 (-9)]

set_option maxRecDepth 100000 in
set_option maxHeartbeats 400000 in
theorem may_x (w : World) :
    Calls Tryz.prog 50 #[xMut] w fun e w' => e = .returned (.bool true) ∧ Below w.heap.size w w' := by
  unfold xMut
  go_enter Tryz.func50, Tryz.ntmps50
  go_wp2
  go_ret
  refine ⟨rfl, ?_⟩
  repeat (first | exact Below.refl _ _ | refine Below.drew ?_ | refine Below.alloc ?_ (by first | (simp; done) | (simp; omega)) _)

theorem putInt_nil (x : Int) (w : World) (h0 : -9223372036854775808 ≤ x) (h1 : x ≤ 9223372036854775807) :
    Calls Tryz.prog 135 #[.slice none 0 0, .int .i64 x] w fun e w' => ∃ a k c L, e = .returned (.slice a k c) ∧ Bs w' a k c L ∧ Hid (L = M.numB 9 (fold x)) ∧ 1 ≤ k ∧ k ≤ 10 ∧ Below w.heap.size w w' := by
  refine (putInt_any none 0 0 x [] w (Bs.nil _) (by omega) h0 h1).mono ?_
  rintro e w1 ⟨v1, rfl, hown1, hb1⟩
  obtain ⟨a1, c1, rfl, hbs1⟩ := Bs.of_owns hown1
  have := M.numB_len 9 (fold x)
  exact ⟨a1, _, c1, _, rfl, hbs1, by show _ = _; simp, by simpa using this.1, by simpa using this.2, hb1⟩

def xObj : Obj := .cells #[.int .i64 5, .int .i64 1, .int .i64 1, .int .i64 5, .int .i64 3, .int .i64 (-9)] 60 (0, 0)

theorem x_cells {w : World} {g : Nat} (h : w.heap[g]? = some xObj) :
    w.cell? ⟨g, 0, none⟩ = some (.int .i64 5) ∧ w.cell? ⟨g, 1, none⟩ = some (.int .i64 1) ∧ w.cell? ⟨g, 2, none⟩ = some (.int .i64 1) ∧ w.cell? ⟨g, 3, none⟩ = some (.int .i64 5) ∧ w.cell? ⟨g, 4, none⟩ = some (.int .i64 3) ∧ w.cell? ⟨g, 5, none⟩ = some (.int .i64 (-9)) := by
  refine ⟨?_, ?_, ?_, ?_, ?_, ?_⟩ <;> simp [World.cell?, h, xObj]

/-- What mut.write keeps between its rows: the box of the change, the row that it writes. -/
def Wx (B g : Nat) (w0 w : World) (v : Value) (l : List Int) : Prop :=
  w.ownsInts B 5 .u8 v l ∧ w.heap[g]? = some xObj ∧ v.ownBlock ≠ some g ∧ g < w.heap.size ∧ Below B w0 w

theorem Wx.next {B g : Nat} {w0 w w' : World} {v v' : Value} {l l' : List Int} (h : Wx B g w0 w v l) (hB : B ≤ w.heap.size) (hw : Wrote B w w' v v' l') : Wx B g w0 w' v' l' := by
  obtain ⟨h1, h2, h3, h4, h5⟩ := h
  obtain ⟨k1, k2, k3⟩ := hw
  refine ⟨k1, (k2.block g h4 (fun e => h3 e.symm)).trans h2, ?_, Nat.lt_of_lt_of_le h4 k2.size, h5.trans ((Below.refl B w).grown k2 hB (fun k hk => (h1.1.lt k hk).1))⟩
  rcases k3 with k3 | ⟨k, e, hk⟩
  · rw [k3]; exact h3
  · rw [e]; simp; omega

set_option maxRecDepth 100000 in
set_option maxHeartbeats 800000 in
theorem mutWrite_x (B : Nat) (v : Value) (l : List Int) (w : World) (h : w.ownsInts B 5 .u8 v l) (hB : B ≤ w.heap.size) (hl : l.length ≤ 1000000) :
    Calls Tryz.prog 108 #[v, xMut] w fun e w' => ∃ v', e = .returned v' ∧ w'.ownsInts B 5 .u8 v' (l ++ [5, 1, 1, 5, 3, 17]) ∧ Below B w w' := by
  have I0 : Wx B w.heap.size w (w.alloc xObj) v l := by
    refine ⟨h.alloc _, heap_alloc_new w _, fun e => ?_, by simp, below_alloc w _ B hB⟩
    have := (h.1.lt _ e).2
    omega
  have HI := hide I0
  clear I0 h
  unfold xMut
  go_enter Tryz.func108, Tryz.ntmps108
  go_wp2_with fail
  refine (writeNum1 B v l 5 _ HI.out.1 (by simp; omega) (by omega) (by omega) 5 rfl).mono ?_
  rintro e w1 ⟨v1, rfl, hw1⟩
  have I1 := hide (HI.out.next (by simp; omega) hw1)
  have s1 : B ≤ w1.heap.size := Nat.le_trans (by simp; omega) hw1.2.1.size
  obtain ⟨c0, c1, c2, c3, c4, c5⟩ := x_cells I1.out.2.1
  clear HI hw1
  go_wp2_with fail
  refine (writeNum1 B v1 _ 1 _ I1.out.1 s1 (by simp; omega) (by omega) 1 rfl).mono ?_
  rintro e w2 ⟨v2, rfl, hw2⟩
  have I2 := hide (I1.out.next s1 hw2)
  have s2 : B ≤ w2.heap.size := Nat.le_trans s1 hw2.2.1.size
  clear c0 c1 c2 c3 c4 c5 hw2 I1
  obtain ⟨c0, c1, c2, c3, c4, c5⟩ := x_cells I2.out.2.1
  go_wp2_with fail
  refine (writeNum1 B v2 _ 1 _ I2.out.1 s2 (by simp; omega) (by omega) 1 rfl).mono ?_
  rintro e w3 ⟨v3, rfl, hw3⟩
  have I3 := hide (I2.out.next s2 hw3)
  have s3 : B ≤ w3.heap.size := Nat.le_trans s2 hw3.2.1.size
  clear c0 c1 c2 c3 c4 c5 hw3 I2
  obtain ⟨c0, c1, c2, c3, c4, c5⟩ := x_cells I3.out.2.1
  go_wp2_with fail
  refine (writeNum1 B v3 _ 5 _ I3.out.1 s3 (by simp; omega) (by omega) 5 rfl).mono ?_
  rintro e w4 ⟨v4, rfl, hw4⟩
  have I4 := hide (I3.out.next s3 hw4)
  have s4 : B ≤ w4.heap.size := Nat.le_trans s3 hw4.2.1.size
  clear c0 c1 c2 c3 c4 c5 hw4 I3
  obtain ⟨c0, c1, c2, c3, c4, c5⟩ := x_cells I4.out.2.1
  go_wp2_with (go_at_call 119; go_in)
  refine (writeNum1 B v4 _ 3 _ I4.out.1 s4 (by simp; omega) (by omega) 3 rfl).mono ?_
  rintro e w5 ⟨v5, rfl, hw5⟩
  have I5 := hide (I4.out.next s4 hw5)
  have s5 : B ≤ w5.heap.size := Nat.le_trans s4 hw5.2.1.size
  clear c0 c1 c2 c3 c4 c5 hw5 I4
  obtain ⟨c0, c1, c2, c3, c4, c5⟩ := x_cells I5.out.2.1
  go_wp2_with (go_at_call 121; go_in)
  refine (putInt_nil (-9) _ (by omega) (by omega)).mono ?_
  rintro e w6 ⟨a6, k6, c6, L6, rfl, hbs6, HL6, h61, h610, hb6⟩
  have hv := owns_later I5.out.1 hb6
  have s6 := Nat.le_trans s5 hb6.size
  have hb56 : Below B w w6 := I5.out.2.2.2.2.trans (hb6.mono s5)
  have HL : Hid ((l ++ [5] ++ [1] ++ [1] ++ [5] ++ [3]).length + k6 ≤ 70368744177664) := by show _ ≤ _; simp; omega
  clear c0 c1 c2 c3 c4 c5 I5
  go_wp2_with (at_builtin; refine wpList_app rfl (.tmp 39) (.tmp 42) rfl B _ (l ++ [5] ++ [1] ++ [1] ++ [5] ++ [3]) rfl hv a6 k6 c6 L6 rfl hbs6 HL.out s6 ?_)
  intro v7 w7 hown7 hg7 _
  have hb7 : Below B w w7 := hb56.trans (below_app hv hg7 s6)
  have e : Hid (L6 = [17]) := by show _ = _; rw [HL6.out]; decide
  rw [e.out] at hown7
  clear hg7 hv
  go_wp2
  go_ret
  exact ⟨_, rfl, by simpa using hown7, hb7⟩

set_option maxRecDepth 100000 in
set_option maxHeartbeats 800000 in
/-- The same at whatever row of changes that holds this one alone. -/
theorem mutPut_x (g : Nat) (w : World) (hg : w.heap[g]? = some xObj) :
    Calls Tryz.prog 68 #[.slice none 0 0, .slice (some ⟨g, 0, none⟩) 1 1] w fun e w' => ∃ v', e = .returned v' ∧ w'.ownsInts w.heap.size 5 .u8 v' [5, 1, 1, 5, 3, 17] ∧ Below w.heap.size w w' := by
  have hlt : g < w.heap.size := by
    by_cases h : g < w.heap.size
    · exact h
    · simp [Array.getElem?_eq_none (Nat.not_lt.1 h)] at hg
  have HG := hide hg
  clear hg
  go_enter Tryz.func68, Tryz.ntmps68
  go_wp2_with fail
  refine (copyRoomM none 0 0 15 [] _ (Bs.nil _) (by omega) (by omega)).mono ?_
  rintro e w1 ⟨rfl, hown1, hb1⟩
  obtain ⟨c0, c1, c2, c3, c4, c5⟩ := x_cells ((hb1.block g hlt).trans HG.out)
  go_wp2
  refine wp_loop_rounds 2 ?_
  rw [rounds_succ]
  go_wp2_with fail
  refine (may_x _).mono ?_
  rintro e w2 ⟨rfl, hb2⟩
  have hb12 : Below w.heap.size w w2 := hb1.trans ((below_alloc w1 _ w.heap.size hb1.size).trans (hb2.mono (by simp; have := hb1.size; omega)))
  have hx2 : w2.heap[w1.heap.size]? = some xObj := (hb2.block _ (by simp)).trans (heap_alloc_new w1 _)
  have hown2 := owns_later (hown1.alloc xObj) hb2
  have H3 := hide (mutWrite_x w.heap.size _ [] w2 hown2 hb12.size (by simp))
  clear c0 c1 c2 c3 c4 c5
  obtain ⟨c0, c1, c2, c3, c4, c5⟩ := x_cells hx2
  clear hown2 hx2 hown1 hb2 HG
  go_wp2_with fail
  refine H3.out.mono ?_
  rintro e w3 ⟨v3, rfl, hown3, hb3⟩
  have hb4 := hb12.trans hb3
  clear c0 c1 c2 c3 c4 c5 H3
  go_wp2
  rw [rounds_succ]
  go_wp2
  go_ret
  exact ⟨_, rfl, by simpa using hown3, hb4⟩
end Go.Proofs.YtdogecaonlmalaaGreat
