/- A put of what is there already; bytes held against bytes. -/
import Derived.Test.YtjdbkmjhjcmoaaaLawB
import Derived.Test.YtjdbkmjhjcmoaaaStore2
namespace Go.Proofs.Ytjdbkmjhjcmoaaa
open Go.RowKit

set_option maxRecDepth 100000 in
theorem bytesEqual_any (a a' : Option Addr) (n n' c c' : Nat) (l l' : List Int) (w : World) (h : Bs w a n c l) (h' : Bs w a' n' c' l') (B : Bool) (hB : B = decide (l = l')) :
    Calls Try.prog 63 #[.slice a n c, .slice a' n' c'] w fun e w' => e = .returned (.bool B) ∧ w' = w := by
  have c1 := conv_any a n c l w w h (fun _ _ h => h)
  have c2 := conv_any a' n' c' l' w w h' (fun _ _ h => h)
  have hb := str_beq l l' h.2.2.2.2.2 h'.2.2.2.2.2 B hB
  clear h h' hB
  generalize strOfNums l = s at *
  generalize strOfNums l' = s' at *
  go_enter Try.func63, Try.ntmps63
  go_wp2
  go_ret
  exact ⟨rfl, rfl⟩

set_option maxRecDepth 100000 in
theorem again_any (a a' : Option Addr) (n n' c c' : Nat) (l l' : List Int) (w : World) (h : Bs w a n c l) (h' : Bs w a' n' c' l') :
    Calls Try.prog 37 #[.slice a n c, .slice a' n' c'] w fun e w' => e = .returned (.int .i64 (if l = l' then 0 else 6)) ∧ w' = w := by
  by_cases hl : l = l'
  · have HE := hide (bytesEqual_any a a' n n' c c' l l' w h h' true (by simpa using hl))
    rw [if_pos hl]
    clear h h' hl
    go_enter Try.func37, Try.ntmps37
    go_wp2_with fail
    refine HE.out.mono ?_
    rintro e w1 ⟨rfl, rfl⟩
    go_wp2
    go_ret
    exact ⟨rfl, rfl⟩
  · have HE := hide (bytesEqual_any a a' n n' c c' l l' w h h' false (by simpa using hl))
    rw [if_neg hl]
    clear h h' hl
    go_enter Try.func37, Try.ntmps37
    go_wp2_with fail
    refine HE.out.mono ?_
    rintro e w1 ⟨rfl, rfl⟩
    go_wp2
    go_ret
    exact ⟨rfl, rfl⟩

set_option maxRecDepth 100000 in
set_option maxHeartbeats 400000 in
theorem storePut_again (g mb gv m : Nat) (r u : Int) (s : ByteArray) (a : Option Addr) (n c : Nat) (l l' : List Int) (fl : Bool) (w : World) (hg : w.heap[g]? = some (stObj r u (some mb))) (hm : w.heap[mb]? = some (.map #[⟨.string s, .slice (some ⟨gv, 0, none⟩) m m, 0⟩] 1)) (hv : Bs w (some ⟨gv, 0, none⟩) m m l) (h : Bs w a n c l') (h0 : 1 ≤ s.size) (hs : s.size ≤ 40) (hn : n ≤ 1000) :
    Calls Try.prog 14 #[.pointer (some ⟨g, 0, none⟩), .string s, .slice a n c, .bool fl] w fun e w' => e = .returned (.int .i64 (if l = l' then 0 else 6)) ∧ w' = w := by
  obtain ⟨c0, c1, c2, f1, f2⟩ := st_cells hg
  have lk := look_one und98 s true w hm
  simp only [if_true] at lk
  have d1 : decide ((s.size : Int) ≤ 40) = true := by simp; omega
  have d2 : decide (1 ≤ (s.size : Int)) = true := by simp; omega
  have HA := hide (again_any _ a m n m c l l' w hv h)
  clear hg hm hv h
  generalize (if l = l' then (0 : Int) else 6) = R at *
  go_enter Try.func14, Try.ntmps14
  go_wp2_with (first | (go_at_call 36; go_in) | fail)
  refine HA.out.mono ?_
  rintro e w1 ⟨rfl, rfl⟩
  go_wp2
  go_ret
  exact ⟨rfl, rfl⟩

/-- A byte laid by itself is the call's own. -/
theorem owns_one (w : World) (x : Int) (hx : 0 ≤ x ∧ x ≤ 255) : (w.alloc (.cells #[.int .u8 x] 5)).ownsInts w.heap.size 5 .u8 (.slice (some ⟨w.heap.size, 0, none⟩) 1 1) [x] := by
  refine ⟨⟨by simp, .inr ⟨_, _, _, rfl, Nat.le_refl _, heap_alloc_new w _, by simp, by simp [maxLen], by simp, by simp⟩⟩, fun z hz => ?_⟩
  have : z = x := by simpa using hz
  rw [this]; exact wf_u8 hx

/-- A store with one object, laid out. -/
structure One (w : World) (g mb gv m : Nat) (s : ByteArray) (l : List Int) : Prop where
  obj : w.heap[g]? = some (stObj 0 m (some mb))
  map : w.heap[mb]? = some (.map #[⟨.string s, .slice (some ⟨gv, 0, none⟩) m m, 0⟩] 1)
  val : Bs w (some ⟨gv, 0, none⟩) m m l
theorem One.later {w w' : World} {g mb gv m : Nat} {s : ByteArray} {l : List Int} (h : One w g mb gv m s l) (hb : Below w.heap.size w w') : One w' g mb gv m s l :=
  ⟨(hb.block _ (lt_of_heap h.obj)).trans h.obj, (hb.block _ (lt_of_heap h.map)).trans h.map, h.val.later hb (Nat.le_refl _)⟩
/-- Another block turned. -/
theorem One.but {w w' : World} {g mb gv m b : Nat} {s : ByteArray} {l : List Int} (h : One w g mb gv m s l) (hg : w.grownBy w' (some b)) (h1 : g ≠ b) (h2 : mb ≠ b) (h3 : gv ≠ b) : One w' g mb gv m s l := by
  refine ⟨(hg.block _ (lt_of_heap h.obj) (by simpa using h1)).trans h.obj, (hg.block _ (lt_of_heap h.map) (by simpa using h2)).trans h.map, ?_⟩
  obtain ⟨q1, q2, q3, q4, q5, q6⟩ := h.val
  refine ⟨q1, q2, q3, q4, fun hp => ?_, q6⟩
  obtain ⟨b', o, e, hc⟩ := q5 hp
  obtain ⟨rfl, rfl⟩ : gv = b' ∧ 0 = o := by simpa using e
  exact ⟨_, 0, rfl, fun i hi => hg.cell (hc i hi) (by simpa using h3)⟩
end Go.Proofs.Ytjdbkmjhjcmoaaa
