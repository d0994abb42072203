/- What package frame's functions do to memory: contracts. -/
import Derived.Test.YtdogecaonlmalaaGreatSum1
namespace Go.Proofs.YtdogecaonlmalaaGreat
open Go.RowKit

set_option maxRecDepth 100000 in
set_option maxHeartbeats 400000 in
theorem copyRoomF (a : Option Addr) (n cap room : Nat) (l : List Int) (w : World) (h : Bs w a n cap l) (hn : n ≤ 1099511627776) (hr : room ≤ 1099511627776) :
    Calls Tryz.prog 90 #[.slice a n cap, .int .i64 room] w fun e w' => e = .returned (.slice (some ⟨w.heap.size, 0, none⟩) n (n + room)) ∧
      w'.ownsInts w.heap.size 5 .u8 (.slice (some ⟨w.heap.size, 0, none⟩) n (n + room)) l ∧ Below w.heap.size w w' := by
  obtain ⟨i0, hi, hz0, hz1, hz2⟩ := info_parts infoB
  have hmk : ∀ w : World, (Instr.makeSlice 112 (.int .i64 n) (.int .i64 ((n : Int) + room))).run Tryz.prog w = .ok (.slice (some ⟨w.heap.size, 0, none⟩) n (n + room)) (w.alloc (.cells (madeCells #[.int .u8 0] (n + room)) 5)) := by
    intro w
    have := run_make (P := Tryz.prog) w 112 5 i0 _ Tryz.underlying112 hi hz0 .i64 .i64 n ((n : Int) + room) (by omega) (by omega) (by rw [hz2]; omega) (by omega)
    rw [this, hz1]
    have e1 : ((n : Int)).toNat = n := by omega
    have e2 : ((n : Int) + room).toNat = n + room := by omega
    rw [e1, e2, Nat.mul_one]
    rfl
  clear hi hz0 hz1 hz2
  obtain ⟨h1, h2, h3, h4, h5, h6⟩ := h
  have H1 : Hid (l.length = n) := h1
  clear h1
  obtain ⟨X, eX⟩ : ∃ X, X = l.map (Value.int .u8) := ⟨_, rfl⟩
  obtain ⟨Z, eZ⟩ : ∃ Z, Z = List.replicate (n + room) (Value.int .u8 0) := ⟨_, rfl⟩
  have EX : Hid (X = l.map (Value.int .u8)) := eX
  have EZ : Hid (Z = List.replicate (n + room) (Value.int .u8 0)) := eZ
  clear eX eZ
  go_enter Tryz.func90, Tryz.ntmps90
  go_wp2_with (refine wpList_copy_splice rfl (.tmp 13) (.tmp 14) 112 112 rfl 5 Tryz.underlying112 sizeB (some ⟨w.heap.size, 0, none⟩) a n (n + room) n cap rfl rfl w.heap.size 0 Z 5 ?hg X ?hn ?hpos ?hfit ?h1 w.heap.size w ?hb ?hBg ?_)
  case hg =>
    rw [EZ.out, ← toList_madeCells_one]
    show (w.heap.push _)[w.heap.size]? = _
    simp
  case hn => rw [EX.out]; simp [H1.out]
  case hpos =>
    intro hp
    rw [EX.out] at hp
    obtain ⟨b, o, rfl, hc⟩ := h5 (by simpa [H1.out] using hp)
    refine ⟨_, rfl, fun j v hj => ?_⟩
    rw [EX.out] at hj
    have hjl : j < n := by
      have := (List.getElem?_eq_some_iff.1 hj).1
      simpa [H1.out] using this
    have hcj := hc j hjl
    have hlt := lt_of_cell hcj
    have e : (⟨b, o, none⟩ : Addr).add j = ⟨b, o + j, none⟩ := by unfold Addr.add; split <;> simp_all
    rw [e, ((Below.refl w.heap.size w).alloc (Nat.le_refl _) _).cell (p := ⟨b, o + j, none⟩) hlt, hcj]
    simp only [List.getElem?_map] at hj
    rw [List.getD_eq_getElem?_getD]
    cases hl : l[j]? with
    | none => simp [hl] at hj
    | some x => simp [hl] at hj; simp [hj]
  case hfit => rw [EX.out, EZ.out]; simp [H1.out]
  case h1 => intro v hv; rw [EX.out] at hv; simp at hv; obtain ⟨x, _, rfl⟩ := hv; rfl
  case hb => exact (Below.refl _ _).alloc (Nat.le_refl _) _
  case hBg => exact Nat.le_refl _
  intro w' hg hb
  clear hmk h5
  go_wp2
  go_ret
  refine ⟨rfl, ⟨?_, fun z hz => wf_u8 (h6 z hz)⟩, hb⟩
  rw [H1.out]
  refine ⟨by simp [H1.out], .inr ⟨_, _, _, rfl, Nat.le_refl _, hg.out, by omega, by simp [maxLen]; omega, ?_, ?_⟩⟩
  · simp only [List.size_toArray]
    rw [length_splice _ _ _ (by rw [EX.out, EZ.out]; simp [H1.out]), EZ.out]
    simp
  · rw [EX.out, EZ.out]
    simp [splice]
    rw [List.take_append_of_le_length (by simp [H1.out])]
    exact List.take_of_length_le (by simp [H1.out])

set_option maxRecDepth 100000 in
set_option maxHeartbeats 400000 in
theorem copyRoomM (a : Option Addr) (n cap room : Nat) (l : List Int) (w : World) (h : Bs w a n cap l) (hn : n ≤ 1099511627776) (hr : room ≤ 1099511627776) :
    Calls Tryz.prog 107 #[.slice a n cap, .int .i64 room] w fun e w' => e = .returned (.slice (some ⟨w.heap.size, 0, none⟩) n (n + room)) ∧
      w'.ownsInts w.heap.size 5 .u8 (.slice (some ⟨w.heap.size, 0, none⟩) n (n + room)) l ∧ Below w.heap.size w w' := by
  obtain ⟨i0, hi, hz0, hz1, hz2⟩ := info_parts infoB
  have hmk : ∀ w : World, (Instr.makeSlice 112 (.int .i64 n) (.int .i64 ((n : Int) + room))).run Tryz.prog w = .ok (.slice (some ⟨w.heap.size, 0, none⟩) n (n + room)) (w.alloc (.cells (madeCells #[.int .u8 0] (n + room)) 5)) := by
    intro w
    have := run_make (P := Tryz.prog) w 112 5 i0 _ Tryz.underlying112 hi hz0 .i64 .i64 n ((n : Int) + room) (by omega) (by omega) (by rw [hz2]; omega) (by omega)
    rw [this, hz1]
    have e1 : ((n : Int)).toNat = n := by omega
    have e2 : ((n : Int) + room).toNat = n + room := by omega
    rw [e1, e2, Nat.mul_one]
    rfl
  clear hi hz0 hz1 hz2
  obtain ⟨h1, h2, h3, h4, h5, h6⟩ := h
  have H1 : Hid (l.length = n) := h1
  clear h1
  obtain ⟨X, eX⟩ : ∃ X, X = l.map (Value.int .u8) := ⟨_, rfl⟩
  obtain ⟨Z, eZ⟩ : ∃ Z, Z = List.replicate (n + room) (Value.int .u8 0) := ⟨_, rfl⟩
  have EX : Hid (X = l.map (Value.int .u8)) := eX
  have EZ : Hid (Z = List.replicate (n + room) (Value.int .u8 0)) := eZ
  clear eX eZ
  go_enter Tryz.func107, Tryz.ntmps107
  go_wp2_with (refine wpList_copy_splice rfl (.tmp 13) (.tmp 14) 112 112 rfl 5 Tryz.underlying112 sizeB (some ⟨w.heap.size, 0, none⟩) a n (n + room) n cap rfl rfl w.heap.size 0 Z 5 ?hg X ?hn ?hpos ?hfit ?h1 w.heap.size w ?hb ?hBg ?_)
  case hg =>
    rw [EZ.out, ← toList_madeCells_one]
    show (w.heap.push _)[w.heap.size]? = _
    simp
  case hn => rw [EX.out]; simp [H1.out]
  case hpos =>
    intro hp
    rw [EX.out] at hp
    obtain ⟨b, o, rfl, hc⟩ := h5 (by simpa [H1.out] using hp)
    refine ⟨_, rfl, fun j v hj => ?_⟩
    rw [EX.out] at hj
    have hjl : j < n := by
      have := (List.getElem?_eq_some_iff.1 hj).1
      simpa [H1.out] using this
    have hcj := hc j hjl
    have hlt := lt_of_cell hcj
    have e : (⟨b, o, none⟩ : Addr).add j = ⟨b, o + j, none⟩ := by unfold Addr.add; split <;> simp_all
    rw [e, ((Below.refl w.heap.size w).alloc (Nat.le_refl _) _).cell (p := ⟨b, o + j, none⟩) hlt, hcj]
    simp only [List.getElem?_map] at hj
    rw [List.getD_eq_getElem?_getD]
    cases hl : l[j]? with
    | none => simp [hl] at hj
    | some x => simp [hl] at hj; simp [hj]
  case hfit => rw [EX.out, EZ.out]; simp [H1.out]
  case h1 => intro v hv; rw [EX.out] at hv; simp at hv; obtain ⟨x, _, rfl⟩ := hv; rfl
  case hb => exact (Below.refl _ _).alloc (Nat.le_refl _) _
  case hBg => exact Nat.le_refl _
  intro w' hg hb
  clear hmk h5
  go_wp2
  go_ret
  refine ⟨rfl, ⟨?_, fun z hz => wf_u8 (h6 z hz)⟩, hb⟩
  rw [H1.out]
  refine ⟨by simp [H1.out], .inr ⟨_, _, _, rfl, Nat.le_refl _, hg.out, by omega, by simp [maxLen]; omega, ?_, ?_⟩⟩
  · simp only [List.size_toArray]
    rw [length_splice _ _ _ (by rw [EX.out, EZ.out]; simp [H1.out]), EZ.out]
    simp
  · rw [EX.out, EZ.out]
    simp [splice]
    rw [List.take_append_of_le_length (by simp [H1.out])]
    exact List.take_of_length_le (by simp [H1.out])


def sum4 (s : Nat) : List Int := (List.range 4).map fun k => (s : Int) / 2 ^ (8 * k) % 256

theorem sum4_take (s k : Nat) (h : k < 4) : (sum4 s).take (k + 1) = (sum4 s).take k ++ [(s : Int) / 2 ^ (8 * k) % 256] := by
  rcases (show k = 0 ∨ k = 1 ∨ k = 2 ∨ k = 3 by omega) with rfl | rfl | rfl | rfl <;> rfl
theorem sum4_len (s : Nat) : (sum4 s).length = 4 := rfl
theorem sum4_range (s : Nat) : ∀ x ∈ sum4 s, 0 ≤ x ∧ x ≤ 255 := by
  intro x hx
  simp only [sum4, List.mem_map] at hx
  obtain ⟨k, _, rfl⟩ := hx
  omega

set_option maxRecDepth 100000 in
set_option maxHeartbeats 800000 in
theorem writeSum_any (B : Nat) (v : Value) (l : List Int) (s : Nat) (w : World) (h : w.ownsInts B 5 .u8 v l) (hB : B ≤ w.heap.size) (hl : l.length ≤ 2199023255552) (_hs : s < 4294967296) :
    Calls Tryz.prog 125 #[v, .int .u32 s] w fun e w' => ∃ v', e = .returned v' ∧ w'.ownsInts B 5 .u8 v' (l ++ sum4 s) ∧ Below B w w' := by
  go_enter Tryz.func125, Tryz.ntmps125
  go_wp2
  go_loopw [0, 6] (fun v' i wr => ∃ k : Nat, k ≤ 4 ∧ i = .int .i64 k ∧ wr.ownsInts B 5 .u8 v' (l ++ (sum4 s).take k) ∧ Below B w wr) (fun _ i _ => 4 - (intOf i).toNat)
  case atStart => exact ⟨0, by omega, rfl, by simpa using h, Below.refl _ _⟩
  case round =>
    obtain ⟨k, hk, rfl, hown, hbel⟩ := hrel
    have hBr : B ≤ wr.heap.size := Nat.le_trans hB hbel.size
    by_cases hlt : k < 4
    · obtain ⟨P, HP⟩ : ∃ P, Hid (P = (sum4 s).take k) := ⟨_, rfl⟩
      rw [← HP.out] at hown
      have hpl : P.length ≤ 4 := by rw [HP.out]; simp; omega
      have hll : (l ++ P).length + 1 ≤ 70368744177664 := by simp; omega
      have HK : Hid ((sum4 s).take (k + 1) = P ++ [(s : Int) / 2 ^ (8 * k) % 256]) := by show _ = _; rw [HP.out]; exact sum4_take s k hlt
      go_wp2_with (at_builtin; refine wpList_app rfl (.tmp 9) (.tmp 15) rfl B _ (l ++ P) rfl (owns_alloc hown _) (some ⟨wr.heap.size, 0, none⟩) 1 1 [(s : Int) / 2 ^ (8 * k) % 256] rfl (Bs.one _ _ (by omega)) hll (by simp; omega) ?_)
      intro v' w1 hown1 hg1 _
      have R4 : Below B w w1 := hbel.trans (((Below.refl B wr).alloc hBr _).trans (below_app (owns_alloc hown _) hg1 (by simp; omega)))
      have R : w1.ownsInts B 5 .u8 v' (l ++ (sum4 s).take (k + 1)) := by rw [HK.out]; simpa using hown1
      have HR := hide R
      clear hg1 hown hown1 R
      go_wp2
      go_roundw
      case rel => exact ⟨k + 1, by omega, by go_num, HR.out, R4⟩
      case measure => simp [intOf]; omega
    · obtain rfl : k = 4 := by omega
      go_wp2
      go_ret
      exact ⟨_, rfl, hown, hbel⟩

/-- A text's frame. -/
def frameB (t : List Int) : List Int := M.numB 9 t.length ++ (sum4 (sumOf t) ++ t)

theorem sumOf_lt (t : List Int) : sumOf t < 4294967296 := by
  have h := sumS_lt (0, 0) t (by decide)
  unfold sumOf sumV
  omega

theorem Ps.one {w : World} {a : Option Addr} {n c : Nat} {t : List Int} (h : Bs w a n c t) : Ps (w.alloc (.cells #[.slice a n c] 112)) (some ⟨w.heap.size, 0, none⟩) 1 [t] := by
  refine ⟨rfl, fun _ => ⟨w.heap.size, 0, rfl, fun i hi => ?_⟩⟩
  obtain rfl : i = 0 := by omega
  have := cell_one_new w (.slice a n c) 112 0 (.slice a n c) rfl
  rw [Go.Proofs.YtdogecaonlmalaaGreat.add_none] at this
  exact ⟨a, n, c, this, h.later ((Below.refl w.heap.size w).alloc (Nat.le_refl _) _) (Nat.le_refl _)⟩

theorem put_nil (m : Nat) (w : World) (hm : m < 18446744073709551616) :
    Calls Tryz.prog 57 #[.slice none 0 0, .int .u64 m] w fun e w' => ∃ a k c L, e = .returned (.slice a k c) ∧ Bs w' a k c L ∧ Hid (L = M.numB 9 m) ∧ 1 ≤ k ∧ k ≤ 10 ∧ Below w.heap.size w w' := by
  refine (put_any none 0 0 m [] w (Bs.nil _) (by omega) hm).mono ?_
  rintro e w1 ⟨v1, rfl, hown1, hb1⟩
  obtain ⟨a1, c1, rfl, hbs1⟩ := Bs.of_owns hown1
  have := M.numB_len 9 m
  exact ⟨a1, _, c1, _, rfl, hbs1, by show _ = _; simp, by simpa using this.1, by simpa using this.2, hb1⟩

theorem of_one {w : World} {pa : Option Addr} {t : List Int} (mc : Nat) (h : Ps w pa 1 [t]) :
    Calls Tryz.prog 70 #[.slice pa 1 mc] w fun e w' => ∃ S : Nat, e = .returned (.int .u32 S) ∧ Hid (S = sumOf t) ∧ S < 4294967296 ∧ Below w.heap.size w w' := by
  refine (of_any pa 1 mc [t] w h (by omega)).mono ?_
  rintro e w1 ⟨rfl, hb⟩
  exact ⟨_, rfl, by show _ = _; simp, sumOf_lt _, hb⟩

theorem owns_later {w w' : World} {B : Nat} {v : Value} {l : List Int} (h : w.ownsInts B 5 .u8 v l) (hb : Below w.heap.size w w') : w'.ownsInts B 5 .u8 v l :=
  h.kept (below_grown hb none) (by cases e : v.ownBlock with | none => exact Or.inl rfl | some _ => exact Or.inr (by simp))

theorem below_alloc (w : World) (o : Obj) (B : Nat) (hB : B ≤ w.heap.size) : Below B w (w.alloc o) := (Below.refl _ _).alloc hB _

set_option maxRecDepth 100000 in
set_option maxHeartbeats 800000 in
theorem frameWrite_any (B : Nat) (v : Value) (l : List Int) (a : Option Addr) (n cap : Nat) (t : List Int) (w0 w : World) (h : w.ownsInts B 5 .u8 v l) (hB : B ≤ w.heap.size) (hl : l.length ≤ 1099511627776)
    (ht : Bs w0 a n cap t) (hb0 : Below B w0 w) (hB0 : w0.heap.size ≤ B) (hn : n ≤ 1099511627776) :
    Calls Tryz.prog 93 #[v, .slice a n cap] w fun e w' => ∃ v', e = .returned v' ∧ w'.ownsInts B 5 .u8 v' (l ++ frameB t) ∧ Below B w w' := by
  have HT := hide ht.1
  go_enter Tryz.func93, Tryz.ntmps93
  go_wp2_with fail
  refine (put_nil n _ (by omega)).mono ?_
  rintro e w1 ⟨a1, k1, c1, L1, rfl, hbs1, HL1, h1, h10, hb1⟩
  have hb1' : Below B w w1 := hb1.mono hB
  have hv := owns_later h hb1
  have hB1 := Nat.le_trans hB hb1.size
  go_wp2_with (at_builtin; refine wpList_app rfl (.tmp 5) (.tmp 9) rfl B _ l rfl hv a1 k1 c1 L1 rfl hbs1 (by omega) hB1 ?_)
  intro v2 w2 hown2 hg2 _
  have hb2 : Below B w w2 := hb1'.trans (below_app hv hg2 hB1)
  have hB2 := Nat.le_trans hB hb2.size
  have ht2 : Bs w2 a n cap t := ht.later (hb0.trans hb2) hB0
  have hp := Ps.one ht2
  have H3 := hide (fun mc => of_one mc hp)
  have hlen2 : (l ++ L1).length ≤ 2199023255552 := by rw [List.length_append, hbs1.1]; omega
  clear hg2 hv h hp hb1 hb1' hbs1
  go_wp2_with fail
  refine (H3.out _).mono ?_
  rintro e w3 ⟨S, rfl, HS, hS, hb3⟩
  have hb23 : Below w2.heap.size w2 w3 := (below_alloc w2 _ w2.heap.size (Nat.le_refl _)).trans (hb3.mono (by simp))
  have hown3 := owns_later hown2 hb23
  have hb3' : Below B w w3 := hb2.trans (hb23.mono hB2)
  have hB3 := Nat.le_trans hB hb3'.size
  have H4 := hide (writeSum_any B v2 (l ++ L1) S w3 hown3 hB3 hlen2 hS)
  clear H3 hb3 hown2 hown3 hb23
  go_wp2_with fail
  refine H4.out.mono ?_
  rintro e w4 ⟨v4, rfl, hown4, hb4⟩
  have hb4' : Below B w w4 := hb3'.trans hb4
  have hB4 := Nat.le_trans hB hb4'.size
  have ht4 : Bs w4 a n cap t := ht.later (hb0.trans hb4') hB0
  have hlen4 : (l ++ L1 ++ sum4 S).length + n ≤ 70368744177664 := by rw [List.length_append, sum4_len]; omega
  clear H4 hb4 hb2 hb3'
  go_wp2_with (at_builtin; refine wpList_app rfl (.tmp 16) (.tmp 17) rfl B _ _ rfl hown4 a n cap t rfl ht4 hlen4 hB4 ?_)
  intro v5 w5 hown5 hg5 _
  have hb5 : Below B w w5 := hb4'.trans (below_app hown4 hg5 hB4)
  clear hg5 hown4
  go_wp2
  go_ret
  refine ⟨_, rfl, ?_, hb5⟩
  have e : l ++ frameB t = l ++ (L1 ++ (sum4 S ++ t)) := by
    rw [HL1.out, HS.out, frameB, HT.out]
  rw [e]
  exact hown5
end Go.Proofs.YtdogecaonlmalaaGreat
