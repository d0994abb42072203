/- mut.Put of one change that sets a value at the first key, behind whatever bytes. -/
import Derived.Test.YtjkfobgeklnblaaMut1
namespace Go.Proofs.Ytjkfobgeklnblaa
open Go.RowKit

def sMut (x : Int) : Value := .agg #[.int .i64 1, .int .i64 0, .int .i64 0, .int .i64 0, .int .i64 0, .int .i64 x]
def sObj (x : Int) : Obj := .cells #[.int .i64 1, .int .i64 0, .int .i64 0, .int .i64 0, .int .i64 0, .int .i64 x] 65 (0, 0)

theorem s_cells {w : World} {g : Nat} {x : Int} (h : w.heap[g]? = some (sObj x)) :
    w.cell? ⟨g, 0, none⟩ = some (.int .i64 1) ∧ w.cell? ⟨g, 1, none⟩ = some (.int .i64 0) ∧ w.cell? ⟨g, 2, none⟩ = some (.int .i64 0) ∧ w.cell? ⟨g, 3, none⟩ = some (.int .i64 0) ∧ w.cell? ⟨g, 4, none⟩ = some (.int .i64 0) ∧ w.cell? ⟨g, 5, none⟩ = some (.int .i64 x) := by
  refine ⟨?_, ?_, ?_, ?_, ?_, ?_⟩ <;> simp [World.cell?, h, sObj]

set_option maxRecDepth 100000 in
set_option maxHeartbeats 400000 in
theorem may_s (x : Int) (w : World) :
    Calls Try.prog 50 #[sMut x] w fun e w' => e = .returned (.bool true) ∧ Below w.heap.size w w' := by
  unfold sMut
  go_enter Try.func50, Try.ntmps50
  go_wp2
  go_ret
  refine ⟨rfl, ?_⟩
  repeat (first | exact Below.refl _ _ | refine Below.drew ?_ | refine Below.alloc ?_ (by first | (simp; done) | (simp; omega)) _)

/-- What mut.write keeps between its rows. -/
def Ws (x : Int) (B g : Nat) (w0 w : World) (v : Value) (l : List Int) : Prop :=
  w.ownsInts B 5 .u8 v l ∧ w.heap[g]? = some (sObj x) ∧ v.ownBlock ≠ some g ∧ g < w.heap.size ∧ Below B w0 w

theorem Ws.next {x : Int} {B g : Nat} {w0 w w' : World} {v v' : Value} {l l' : List Int} (h : Ws x B g w0 w v l) (hB : B ≤ w.heap.size) (hw : Wrote B w w' v v' l') : Ws x B g w0 w' v' l' := by
  obtain ⟨h1, h2, h3, h4, h5⟩ := h
  obtain ⟨k1, k2, k3⟩ := hw
  refine ⟨k1, (k2.block g h4 (fun e => h3 e.symm)).trans h2, ?_, Nat.lt_of_lt_of_le h4 k2.size, h5.trans ((Below.refl B w).grown k2 hB (fun k hk => (h1.1.lt k hk).1))⟩
  rcases k3 with k3 | ⟨k, e, hk⟩
  · rw [k3]; exact h3
  · rw [e]; simp; omega

set_option maxRecDepth 100000 in
set_option maxHeartbeats 800000 in
theorem mutWrite_s (x : Int) (hx0 : -9223372036854775808 ≤ x) (hx1 : x ≤ 9223372036854775807) (B : Nat) (v : Value) (l : List Int) (w : World) (h : w.ownsInts B 5 .u8 v l) (hB : B ≤ w.heap.size) (hl : l.length ≤ 1000000) :
    Calls Try.prog 62 #[v, sMut x] w fun e w' => ∃ v', e = .returned v' ∧ w'.ownsInts B 5 .u8 v' (l ++ [1] ++ [0] ++ [0] ++ [0] ++ M.numB 9 (fold x)) ∧ Below B w w' := by
  have I0 : Ws x B w.heap.size w (w.alloc (sObj x)) v l := by
    refine ⟨h.alloc _, heap_alloc_new w _, fun e => ?_, by simp, below_alloc w _ B hB⟩
    have := (h.1.lt _ e).2
    omega
  have HI := hide I0
  clear I0 h
  unfold sMut
  unfold sObj at HI
  go_enter Try.func62, Try.ntmps62
  go_wp2_with fail
  refine (writeNum1 B v l 1 _ HI.out.1 (by simp; omega) (by omega) (by omega) 1 rfl).mono ?_
  rintro e w1 ⟨v1, rfl, hw1⟩
  have I1 := hide (HI.out.next (by simp; omega) hw1)
  have s1 : B ≤ w1.heap.size := Nat.le_trans (by simp; omega) hw1.2.1.size
  obtain ⟨c0, c1, c2, c3, c4, c5⟩ := s_cells I1.out.2.1
  clear HI hw1
  go_wp2_with fail
  refine (writeNum1 B v1 _ 0 _ I1.out.1 s1 (by simp; omega) (by omega) 0 rfl).mono ?_
  rintro e w2 ⟨v2, rfl, hw2⟩
  have I2 := hide (I1.out.next s1 hw2)
  have s2 : B ≤ w2.heap.size := Nat.le_trans s1 hw2.2.1.size
  clear c0 c1 c2 c3 c4 c5 hw2 I1
  obtain ⟨c0, c1, c2, c3, c4, c5⟩ := s_cells I2.out.2.1
  go_wp2_with fail
  refine (writeNum1 B v2 _ 0 _ I2.out.1 s2 (by simp; omega) (by omega) 0 rfl).mono ?_
  rintro e w3 ⟨v3, rfl, hw3⟩
  have I3 := hide (I2.out.next s2 hw3)
  have s3 : B ≤ w3.heap.size := Nat.le_trans s2 hw3.2.1.size
  clear c0 c1 c2 c3 c4 c5 hw3 I2
  obtain ⟨c0, c1, c2, c3, c4, c5⟩ := s_cells I3.out.2.1
  go_wp2_with fail
  refine (writeNum1 B v3 _ 0 _ I3.out.1 s3 (by simp; omega) (by omega) 0 rfl).mono ?_
  rintro e w4 ⟨v4, rfl, hw4⟩
  have I4 := hide (I3.out.next s3 hw4)
  have s4 : B ≤ w4.heap.size := Nat.le_trans s3 hw4.2.1.size
  clear c0 c1 c2 c3 c4 c5 hw4 I3
  obtain ⟨c0, c1, c2, c3, c4, c5⟩ := s_cells I4.out.2.1
  go_wp2_with (first | (go_at_call 83; go_in) | (go_at_call 84; go_in))
  refine (putInt_nil x _ hx0 hx1).mono ?_
  rintro e w6 ⟨a6, k6, c6, L6, rfl, hbs6, HL6, h61, h610, hb6⟩
  have hv := owns_later I4.out.1 hb6
  have s6 := Nat.le_trans s4 hb6.size
  have hb56 : Below B w w6 := I4.out.2.2.2.2.trans (hb6.mono s4)
  have HL : Hid ((l ++ [1] ++ [0] ++ [0] ++ [0]).length + k6 ≤ 70368744177664) := by show _ ≤ _; simp; omega
  clear c0 c1 c2 c3 c4 c5 I4
  go_wp2_with (at_builtin; refine wpList_app rfl (.tmp 39) (.tmp 42) rfl B _ (l ++ [1] ++ [0] ++ [0] ++ [0]) rfl hv a6 k6 c6 L6 rfl hbs6 HL.out s6 ?_)
  intro v7 w7 hown7 hg7 _
  have hb7 : Below B w w7 := hb56.trans (below_app hv hg7 s6)
  rw [HL6.out] at hown7
  clear hg7 hv
  go_wp2
  go_ret
  exact ⟨_, rfl, by simpa using hown7, hb7⟩

set_option maxRecDepth 100000 in
set_option maxHeartbeats 800000 in
theorem mutPut_s (x : Int) (hx0 : -9223372036854775808 ≤ x) (hx1 : x ≤ 9223372036854775807) (a : Option Addr) (n cap : Nat) (l : List Int) (g : Nat) (w : World) (h : Bs w a n cap l) (hn : n ≤ 100000) (hg : w.heap[g]? = some (sObj x)) :
    Calls Try.prog 37 #[.slice a n cap, .slice (some ⟨g, 0, none⟩) 1 1] w fun e w' => ∃ v', e = .returned v' ∧ w'.ownsInts w.heap.size 5 .u8 v' (l ++ [1] ++ [0] ++ [0] ++ [0] ++ M.numB 9 (fold x)) ∧ Below w.heap.size w w' := by
  have hlt : g < w.heap.size := by
    by_cases h : g < w.heap.size
    · exact h
    · simp [Array.getElem?_eq_none (Nat.not_lt.1 h)] at hg
  have HG := hide hg
  have HC := hide (copyRoomM a n cap 15 l w h (by omega) (by omega))
  have HLN := hide h.1
  clear hg h
  go_enter Try.func37, Try.ntmps37
  go_wp2_with fail
  refine HC.out.mono ?_
  rintro e w1 ⟨rfl, hown1, hb1⟩
  obtain ⟨c0, c1, c2, c3, c4, c5⟩ := s_cells ((hb1.block g hlt).trans HG.out)
  go_wp2
  refine wp_loop_rounds 2 ?_
  rw [rounds_succ]
  go_wp2_with fail
  refine (may_s x _).mono ?_
  rintro e w2 ⟨rfl, hb2⟩
  have hb12 : Below w.heap.size w w2 := hb1.trans ((below_alloc w1 _ w.heap.size hb1.size).trans (hb2.mono (by simp; have := hb1.size; omega)))
  have hx2 : w2.heap[w1.heap.size]? = some (sObj x) := (hb2.block _ (by simp)).trans (heap_alloc_new w1 _)
  have hown2 := owns_later (hown1.alloc (sObj x)) hb2
  have H3 := hide (mutWrite_s x hx0 hx1 w.heap.size _ l w2 hown2 hb12.size (by rw [HLN.out]; omega))
  clear c0 c1 c2 c3 c4 c5
  obtain ⟨c0, c1, c2, c3, c4, c5⟩ := s_cells hx2
  clear hown2 hx2 hown1 hb2 HG
  unfold sMut at H3
  go_wp2_with fail
  refine H3.out.mono ?_
  rintro e w3 ⟨v3, rfl, hown3, hb3⟩
  have hb4 := hb12.trans hb3
  clear c0 c1 c2 c3 c4 c5 H3
  go_wp2
  rw [rounds_succ]
  go_wp2
  go_ret
  exact ⟨_, rfl, hown3, hb4⟩
end Go.Proofs.Ytjkfobgeklnblaa
