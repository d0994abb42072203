/- What the small functions of package num do to memory: contracts. -/
import Derived.Test.YtdogecaonlmalaaGreatBase
namespace Go.Proofs.YtdogecaonlmalaaGreat
open Go.RowKit

set_option maxRecDepth 100000 in
set_option maxHeartbeats 400000 in
theorem copyRoom (a : Option Addr) (n cap room : Nat) (l : List Int) (w : World) (h : Bs w a n cap l) (hn : n ≤ 1099511627776) (hr : room ≤ 1099511627776) :
    Calls Tryz.prog 88 #[.slice a n cap, .int .i64 room] w fun e w' => e = .returned (.slice (some ⟨w.heap.size, 0, none⟩) n (n + room)) ∧
      w'.ownsInts w.heap.size 5 .u8 (.slice (some ⟨w.heap.size, 0, none⟩) n (n + room)) l ∧ Below w.heap.size w w' := by
  obtain ⟨i0, hi, hz0, hz1, hz2⟩ := info_parts infoB
  have hmk : ∀ w : World, (Instr.makeSlice 112 (.int .i64 n) (.int .i64 ((n : Int) + room))).run Tryz.prog w = .ok (.slice (some ⟨w.heap.size, 0, none⟩) n (n + room)) (w.alloc (.cells (madeCells #[.int .u8 0] (n + room)) 5)) := by
    intro w
    have := run_make (P := Tryz.prog) w 112 5 i0 _ Tryz.underlying112 hi hz0 .i64 .i64 n ((n : Int) + room) (by omega) (by omega) (by rw [hz2]; omega) (by omega)
    rw [this, hz1]
    have e1 : ((n : Int)).toNat = n := by omega
    have e2 : ((n : Int) + room).toNat = n + room := by omega
    rw [e1, e2, Nat.mul_one]
    rfl
  clear hi hz0 hz1 hz2
  obtain ⟨h1, h2, h3, h4, h5, h6⟩ := h
  have H1 : Hid (l.length = n) := h1
  clear h1
  obtain ⟨X, eX⟩ : ∃ X, X = l.map (Value.int .u8) := ⟨_, rfl⟩
  obtain ⟨Z, eZ⟩ : ∃ Z, Z = List.replicate (n + room) (Value.int .u8 0) := ⟨_, rfl⟩
  have EX : Hid (X = l.map (Value.int .u8)) := eX
  have EZ : Hid (Z = List.replicate (n + room) (Value.int .u8 0)) := eZ
  clear eX eZ
  go_enter Tryz.func88, Tryz.ntmps88
  go_wp2_with (refine wpList_copy_splice rfl (.tmp 13) (.tmp 14) 112 112 rfl 5 Tryz.underlying112 sizeB (some ⟨w.heap.size, 0, none⟩) a n (n + room) n cap rfl rfl w.heap.size 0 Z 5 ?hg X ?hn ?hpos ?hfit ?h1 w.heap.size w ?hb ?hBg ?_)
  case hg =>
    rw [EZ.out, ← toList_madeCells_one]
    show (w.heap.push _)[w.heap.size]? = _
    simp
  case hn => rw [EX.out]; simp [H1.out]
  case hpos =>
    intro hp
    rw [EX.out] at hp
    obtain ⟨b, o, rfl, hc⟩ := h5 (by simpa [H1.out] using hp)
    refine ⟨_, rfl, fun j v hj => ?_⟩
    rw [EX.out] at hj
    have hjl : j < n := by
      have := (List.getElem?_eq_some_iff.1 hj).1
      simpa [H1.out] using this
    have hcj := hc j hjl
    have hlt := lt_of_cell hcj
    have e : (⟨b, o, none⟩ : Addr).add j = ⟨b, o + j, none⟩ := by unfold Addr.add; split <;> simp_all
    rw [e, ((Below.refl w.heap.size w).alloc (Nat.le_refl _) _).cell (p := ⟨b, o + j, none⟩) hlt, hcj]
    simp only [List.getElem?_map] at hj
    rw [List.getD_eq_getElem?_getD]
    cases hl : l[j]? with
    | none => simp [hl] at hj
    | some x => simp [hl] at hj; simp [hj]
  case hfit => rw [EX.out, EZ.out]; simp [H1.out]
  case h1 => intro v hv; rw [EX.out] at hv; simp at hv; obtain ⟨x, _, rfl⟩ := hv; rfl
  case hb => exact (Below.refl _ _).alloc (Nat.le_refl _) _
  case hBg => exact Nat.le_refl _
  intro w' hg hb
  clear hmk h5
  go_wp2
  go_ret
  refine ⟨rfl, ⟨?_, fun z hz => wf_u8 (h6 z hz)⟩, hb⟩
  rw [H1.out]
  refine ⟨by simp [H1.out], .inr ⟨_, _, _, rfl, Nat.le_refl _, hg.out, by omega, by simp [maxLen]; omega, ?_, ?_⟩⟩
  · simp only [List.size_toArray]
    rw [length_splice _ _ _ (by rw [EX.out, EZ.out]; simp [H1.out]), EZ.out]
    simp
  · rw [EX.out, EZ.out]
    simp [splice]
    rw [List.take_append_of_le_length (by simp [H1.out])]
    exact List.take_of_length_le (by simp [H1.out])

set_option maxRecDepth 100000 in
set_option maxHeartbeats 400000 in
/-- write: the bytes of the number behind what is there. -/
theorem write_any (B : Nat) (v : Value) (l : List Int) (n : Nat) (w : World) (h : w.ownsInts B 5 .u8 v l) (hB : B ≤ w.heap.size) (hl : l.length ≤ 1099511627776) (hn : n < 18446744073709551616) :
    Calls Tryz.prog 87 #[v, .int .u64 n] w fun e w' => ∃ v', e = .returned v' ∧ w'.ownsInts B 5 .u8 v' (l ++ M.numB 9 n) ∧ Below B w w' := by
  go_enter Tryz.func87, Tryz.ntmps87
  go_wp2
  go_loopw [0, 1] (fun v' m wr => ∃ (f k : Nat) (pre : List Int), m = .int .u64 k ∧ k < 2 ^ (7 * f) * 128 ∧ k < 18446744073709551616 ∧ wr.ownsInts B 5 .u8 v' (l ++ pre) ∧ pre.length + f = 9 ∧ Hid (pre ++ M.numB f k = M.numB 9 n) ∧ Below B w wr) (fun _ m _ => (intOf m).toNat)
  case atStart => exact ⟨9, n, [], rfl, by omega, hn, by simpa using h, rfl, rfl, Below.refl _ _⟩
  case round =>
    obtain ⟨f, k, pre, rfl, hk, hk64, hown, hf, HP, hbel⟩ := hrel
    have HK : Hid (k < 2 ^ (7 * f) * 128) := hk
    have HF : Hid (pre.length + f = 9) := hf
    have hpl : pre.length ≤ 9 := by omega
    have hll : (l ++ pre).length + 1 ≤ 70368744177664 := by simp; omega
    have hBr : B ≤ wr.heap.size := Nat.le_trans hB hbel.size
    clear hk hf
    by_cases hlt : 128 ≤ k
    · obtain ⟨g, rfl⟩ : ∃ g, f = g + 1 := by
        cases f with
        | zero => exact absurd (M.pow7_zero k HK.out) (by omega)
        | succ g => exact ⟨g, rfl⟩
      go_wp2_with (at_builtin; refine wpList_app rfl (.tmp 7) (.tmp 12) rfl B _ (l ++ pre) rfl (owns_alloc hown _) (some ⟨wr.heap.size, 0, none⟩) 1 1 [(k : Int) % 128 + 128] rfl (Bs.one _ _ (by omega)) hll (by simp; omega) ?_)
      intro v' w1 hown1 hg1 _
      have R : Hid ((pre ++ [(k : Int) % 128 + 128]) ++ M.numB g (k / 128) = M.numB 9 n) := M.numB_step g k n pre hlt HP.out
      have R2 : Hid (k / 128 < 2 ^ (7 * g) * 128) := M.pow7_div g k HK.out
      have R3 : Hid ((pre ++ [(k : Int) % 128 + 128]).length + g = 9) := by have := HF.out; show _ = _; simp; omega
      have R4 : Below B w w1 := hbel.trans (((Below.refl B wr).alloc hBr _).trans (below_app (owns_alloc hown _) hg1 (by simp; omega)))
      try rw [List.append_assoc] at hown1
      clear hg1 hown HP HF HK
      go_wp2
      go_roundw
      case rel => exact ⟨g, k / 128, pre ++ [(k : Int) % 128 + 128], by go_num, R2.out, by omega, hown1, R3.out, R, R4⟩
      case measure => simp [intOf]; omega
    · go_wp2_with (at_builtin; refine wpList_app rfl (.tmp 16) (.tmp 19) rfl B _ (l ++ pre) rfl (owns_alloc hown _) (some ⟨wr.heap.size, 0, none⟩) 1 1 [(k : Int)] rfl (Bs.one _ _ (by omega)) hll (by simp; omega) ?_)
      intro v' w1 hown1 hg1 _
      have R := M.numB_last f k n pre (by omega) HP.out
      have R4 : Below B w w1 := hbel.trans (((Below.refl B wr).alloc hBr _).trans (below_app (owns_alloc hown _) hg1 (by simp; omega)))
      try rw [List.append_assoc] at hown1
      rw [R] at hown1
      go_wp2
      go_ret
      exact ⟨_, rfl, hown1, R4⟩
end Go.Proofs.YtdogecaonlmalaaGreat
