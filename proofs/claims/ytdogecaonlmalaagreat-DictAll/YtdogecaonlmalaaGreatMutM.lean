/- Changes in general: which may be, by the program and by the document. -/
import Derived.Test.YtdogecaonlmalaaGreatMut2
namespace Go.Proofs.YtdogecaonlmalaaGreat
open Go.RowKit

/-- A change: its kind, its key's group, namespace and id, its field, its value. -/
structure Mt where
  k : Int
  g : Int
  n : Int
  i : Int
  f : Int
  v : Int

def mV (m : Mt) : Value := .agg #[.int .i64 m.k, .int .i64 m.g, .int .i64 m.n, .int .i64 m.i, .int .i64 m.f, .int .i64 m.v]
def mCs (m : Mt) : List Value := [.int .i64 m.k, .int .i64 m.g, .int .i64 m.n, .int .i64 m.i, .int .i64 m.f, .int .i64 m.v]
def mtObj (m : Mt) : Obj := .cells #[.int .i64 m.k, .int .i64 m.g, .int .i64 m.n, .int .i64 m.i, .int .i64 m.f, .int .i64 m.v] 60 (0, 0)

theorem mt_cells {w : World} {g : Nat} {m : Mt} (h : w.heap[g]? = some (mtObj m)) :
    w.cell? ⟨g, 0, none⟩ = some (.int .i64 m.k) ∧ w.cell? ⟨g, 1, none⟩ = some (.int .i64 m.g) ∧ w.cell? ⟨g, 2, none⟩ = some (.int .i64 m.n) ∧ w.cell? ⟨g, 3, none⟩ = some (.int .i64 m.i) ∧ w.cell? ⟨g, 4, none⟩ = some (.int .i64 m.f) ∧ w.cell? ⟨g, 5, none⟩ = some (.int .i64 m.v) := by
  refine ⟨?_, ?_, ?_, ?_, ?_, ?_⟩ <;> simp [World.cell?, h, mtObj]

def hasF (k : Int) : Bool := decide (k = 5 ∨ k = 6)
def hasV (k : Int) : Bool := decide (k = 1 ∨ k = 3 ∨ k = 5)
def kindB (k : Int) : Bool := decide (1 ≤ k ∧ k ≤ 6)
def inR (x e : Int) : Bool := decide (0 ≤ x ∧ x < e)
def keyB (g n i : Int) : Bool := inR g 4 && inR n 2 && inR i 24
def fieldB (k f : Int) : Bool := if hasF k then inR f 8 else decide (f = 0)
def valueB (k v : Int) : Bool := hasV k || decide (v = 0)
def mayB (m : Mt) : Bool := kindB m.k && keyB m.g m.n m.i && fieldB m.k m.f && valueB m.k m.v

set_option maxRecDepth 100000 in
theorem inI_any (n e : Int) (w : World) : Calls Tryz.prog 118 #[.int .i64 n, .int .i64 e] w fun r w' => r = .returned (.bool (inR n e)) ∧ w' = w := by
  by_cases h : 0 ≤ n
  · have E : Hid (inR n e = decide (n < e)) := by show _ = _; simp [inR, h]
    go_enter Tryz.func118, Tryz.ntmps118
    go_wp2
    go_ret
    exact ⟨ret_bool (by rw [E.out]), rfl⟩
  · have E : Hid (inR n e = false) := by show _ = _; simp [inR, h]
    go_enter Tryz.func118, Tryz.ntmps118
    go_wp2
    go_ret
    exact ⟨ret_bool (by rw [E.out]), rfl⟩

set_option maxRecDepth 100000 in
theorem inL_any (n e : Int) (w : World) : Calls Tryz.prog 120 #[.int .i64 n, .int .i64 e] w fun r w' => r = .returned (.bool (inR n e)) ∧ w' = w := by
  by_cases h : 0 ≤ n
  · have E : Hid (inR n e = decide (n < e)) := by show _ = _; simp [inR, h]
    go_enter Tryz.func120, Tryz.ntmps120
    go_wp2
    go_ret
    exact ⟨ret_bool (by rw [E.out]), rfl⟩
  · have E : Hid (inR n e = false) := by show _ = _; simp [inR, h]
    go_enter Tryz.func120, Tryz.ntmps120
    go_wp2
    go_ret
    exact ⟨ret_bool (by rw [E.out]), rfl⟩

set_option maxRecDepth 100000 in
theorem kindMay_any (k : Int) (w : World) : Calls Tryz.prog 80 #[.int .i64 k] w fun r w' => r = .returned (.bool (kindB k)) ∧ w' = w := by
  by_cases h : 1 ≤ k
  · have E : Hid (kindB k = decide (k ≤ 6)) := by show _ = _; simp [kindB, h]
    go_enter Tryz.func80, Tryz.ntmps80
    go_wp2
    go_ret
    exact ⟨ret_bool (by rw [E.out]), rfl⟩
  · have E : Hid (kindB k = false) := by show _ = _; simp [kindB, h]
    go_enter Tryz.func80, Tryz.ntmps80
    go_wp2
    go_ret
    exact ⟨ret_bool (by rw [E.out]), rfl⟩

set_option maxRecDepth 100000 in
theorem hasField_any (k : Int) (w : World) : Calls Tryz.prog 119 #[.int .i64 k] w fun r w' => r = .returned (.bool (hasF k)) ∧ w' = w := by
  by_cases h : k = 5
  · have E : Hid (hasF k = true) := by show _ = _; rw [Bool.eq_iff_iff]; simp [hasF, h]
    have hb : (k == 5) = true := by simpa using h
    clear h
    go_enter Tryz.func119, Tryz.ntmps119
    go_wp2
    go_ret
    exact ⟨ret_bool (by rw [E.out]), rfl⟩
  · have E : Hid (hasF k = (k == 6)) := by show _ = _; rw [Bool.eq_iff_iff]; simp [hasF, h]
    have hb : (k == 5) = false := by simpa using h
    clear h
    go_enter Tryz.func119, Tryz.ntmps119
    go_wp2
    go_ret
    exact ⟨ret_bool (by rw [E.out]), rfl⟩

set_option maxRecDepth 100000 in
theorem hasValue_any (k : Int) (w : World) : Calls Tryz.prog 121 #[.int .i64 k] w fun r w' => r = .returned (.bool (hasV k)) ∧ w' = w := by
  by_cases h : k = 1
  · have E : Hid (hasV k = true) := by show _ = _; simp [hasV, h]
    have hb : (k == 1) = true := by simpa using h
    clear h
    go_enter Tryz.func121, Tryz.ntmps121
    go_wp2
    go_ret
    exact ⟨ret_bool (by rw [E.out]), rfl⟩
  · have hb : (k == 1) = false := by simpa using h
    by_cases h3 : k = 3
    · have E : Hid (hasV k = true) := by show _ = _; simp [hasV, h3]
      have hb3 : (k == 3) = true := by simpa using h3
      clear h h3
      go_enter Tryz.func121, Tryz.ntmps121
      go_wp2
      go_ret
      exact ⟨ret_bool (by rw [E.out]), rfl⟩
    · have E : Hid (hasV k = (k == 5)) := by show _ = _; rw [Bool.eq_iff_iff]; simp [hasV, h, h3]
      have hb3 : (k == 3) = false := by simpa using h3
      clear h h3
      go_enter Tryz.func121, Tryz.ntmps121
      go_wp2
      go_ret
      exact ⟨ret_bool (by rw [E.out]), rfl⟩

set_option maxRecDepth 100000 in
theorem keyMay_any (g n i : Int) (w : World) : Calls Tryz.prog 81 #[.agg #[.int .i64 g, .int .i64 n, .int .i64 i]] w fun r w' => r = .returned (.bool (keyB g n i)) ∧ Below w.heap.size w w' := by
  have HB := hide (below_alloc w (.cells #[.int .i64 g, .int .i64 n, .int .i64 i] 28) w.heap.size (Nat.le_refl _))
  have C1 := hide (fun w => inI_any g 4 w)
  have C2 := hide (fun w => inI_any n 2 w)
  have C3 := hide (fun w => inI_any i 24 w)
  unfold keyB
  cases h1 : inR g 4 with
  | false =>
    rw [h1] at C1
    go_enter Tryz.func81, Tryz.ntmps81
    go_wp2_with fail
    refine (C1.out _).mono ?_
    rintro e w1 ⟨rfl, rfl⟩
    go_wp2
    go_ret
    exact ⟨ret_bool (by simp), HB.out⟩
  | true =>
    rw [h1] at C1
    cases h2 : inR n 2 with
    | false =>
      rw [h2] at C2
      go_enter Tryz.func81, Tryz.ntmps81
      go_wp2_with fail
      refine (C1.out _).mono ?_
      rintro e w1 ⟨rfl, rfl⟩
      go_wp2_with fail
      refine (C2.out _).mono ?_
      rintro e w1 ⟨rfl, rfl⟩
      go_wp2
      go_ret
      exact ⟨ret_bool (by simp), HB.out⟩
    | true =>
      rw [h2] at C2
      go_enter Tryz.func81, Tryz.ntmps81
      go_wp2_with fail
      refine (C1.out _).mono ?_
      rintro e w1 ⟨rfl, rfl⟩
      go_wp2_with fail
      refine (C2.out _).mono ?_
      rintro e w1 ⟨rfl, rfl⟩
      go_wp2_with fail
      refine (C3.out _).mono ?_
      rintro e w1 ⟨rfl, rfl⟩
      go_wp2
      go_ret
      exact ⟨ret_bool (by simp), HB.out⟩

set_option maxRecDepth 100000 in
theorem fieldMay_any (m : Mt) (w : World) : Calls Tryz.prog 82 #[mV m] w fun r w' => r = .returned (.bool (fieldB m.k m.f)) ∧ Below w.heap.size w w' := by
  have HB := hide (below_alloc w (mtObj m) w.heap.size (Nat.le_refl _))
  obtain ⟨k, g, n, i, f, v⟩ := m
  unfold mtObj at HB
  unfold mV fieldB
  simp only at *
  have CF := hide (fun w => hasField_any k w)
  have CL := hide (fun w => inL_any f 8 w)
  cases h : hasF k with
  | true =>
    rw [h] at CF
    go_enter Tryz.func82, Tryz.ntmps82
    go_wp2_with fail
    refine (CF.out _).mono ?_
    rintro e w1 ⟨rfl, rfl⟩
    go_wp2_with fail
    refine (CL.out _).mono ?_
    rintro e w1 ⟨rfl, rfl⟩
    go_wp2
    go_ret
    exact ⟨ret_bool (by simp), HB.out⟩
  | false =>
    rw [h] at CF
    go_enter Tryz.func82, Tryz.ntmps82
    go_wp2_with fail
    refine (CF.out _).mono ?_
    rintro e w1 ⟨rfl, rfl⟩
    go_wp2
    go_ret
    exact ⟨ret_bool (by rw [Bool.eq_iff_iff]; simp), HB.out⟩

set_option maxRecDepth 100000 in
theorem valueMay_any (m : Mt) (w : World) : Calls Tryz.prog 83 #[mV m] w fun r w' => r = .returned (.bool (valueB m.k m.v)) ∧ Below w.heap.size w w' := by
  have HB := hide (below_alloc w (mtObj m) w.heap.size (Nat.le_refl _))
  obtain ⟨k, g, n, i, f, v⟩ := m
  unfold mtObj at HB
  unfold mV valueB
  simp only at *
  have CF := hide (fun w => hasValue_any k w)
  cases h : hasV k with
  | true =>
    rw [h] at CF
    go_enter Tryz.func83, Tryz.ntmps83
    go_wp2_with fail
    refine (CF.out _).mono ?_
    rintro e w1 ⟨rfl, rfl⟩
    go_wp2
    go_ret
    exact ⟨ret_bool (by simp), HB.out⟩
  | false =>
    rw [h] at CF
    go_enter Tryz.func83, Tryz.ntmps83
    go_wp2_with fail
    refine (CF.out _).mono ?_
    rintro e w1 ⟨rfl, rfl⟩
    go_wp2
    go_ret
    exact ⟨ret_bool (by rw [Bool.eq_iff_iff]; simp), HB.out⟩

set_option maxRecDepth 100000 in
set_option maxHeartbeats 400000 in
theorem may_any (m : Mt) (w : World) : Calls Tryz.prog 50 #[mV m] w fun r w' => r = .returned (.bool (mayB m)) ∧ Below w.heap.size w w' := by
  have hb0 := below_alloc w (mtObj m) w.heap.size (Nat.le_refl _)
  have hg0 := heap_alloc_new w (mtObj m)
  have CK := hide (fun w => kindMay_any m.k w)
  have CY := hide (fun w => keyMay_any m.g m.n m.i w)
  have CF := hide (fun w => fieldMay_any m w)
  have CV := hide (fun w => valueMay_any m w)
  obtain ⟨k, g, n, i, f, v⟩ := m
  unfold mayB
  unfold mV at *
  unfold mtObj at hb0 hg0
  simp only at *
  have HB := hide hb0
  have HG := hide hg0
  clear hb0 hg0
  cases h1 : kindB k with
  | false =>
    rw [h1] at CK
    go_enter Tryz.func50, Tryz.ntmps50
    go_wp2_with fail
    refine (CK.out _).mono ?_
    rintro e w1 ⟨rfl, rfl⟩
    go_wp2
    go_ret
    exact ⟨ret_bool (by simp), HB.out⟩
  | true =>
    rw [h1] at CK
    cases h2 : keyB g n i with
    | false =>
      rw [h2] at CY
      go_enter Tryz.func50, Tryz.ntmps50
      go_wp2_with fail
      refine (CK.out _).mono ?_
      rintro e w1 ⟨rfl, rfl⟩
      go_wp2_with fail
      refine (CY.out _).mono ?_
      rintro e w2 ⟨rfl, hb2⟩
      have HE := hide (HB.out.trans (hb2.mono HB.out.size))
      go_wp2
      go_ret
      exact ⟨ret_bool (by simp), HE.out⟩
    | true =>
      rw [h2] at CY
      go_enter Tryz.func50, Tryz.ntmps50
      go_wp2_with fail
      refine (CK.out _).mono ?_
      rintro e w1 ⟨rfl, rfl⟩
      go_wp2_with fail
      refine (CY.out _).mono ?_
      rintro e w2 ⟨rfl, hb2⟩
      have HE := hide (HB.out.trans (hb2.mono HB.out.size))
      have HG2 := hide ((hb2.block _ (lt_of_heap HG.out)).trans HG.out)
      obtain ⟨c0, c1, c2, c3, c4, c5⟩ := mt_cells (m := ⟨k, g, n, i, f, v⟩) HG2.out
      simp only at c0 c1 c2 c3 c4 c5
      clear hb2 HB HG
      cases h3 : fieldB k f with
      | false =>
        rw [h3] at CF
        go_wp2_with fail
        refine (CF.out _).mono ?_
        rintro e w3 ⟨rfl, hb3⟩
        have HE3 := hide (HE.out.trans (hb3.mono HE.out.size))
        clear hb3 c0 c1 c2 c3 c4 c5
        go_wp2
        go_ret
        exact ⟨ret_bool (by simp [h3]), HE3.out⟩
      | true =>
        rw [h3] at CF
        go_wp2_with fail
        refine (CF.out _).mono ?_
        rintro e w3 ⟨rfl, hb3⟩
        have HE3 := hide (HE.out.trans (hb3.mono HE.out.size))
        have HG3 := hide ((hb3.block _ (lt_of_heap HG2.out)).trans HG2.out)
        clear hb3 c0 c1 c2 c3 c4 c5 HG2 HE
        obtain ⟨c0, c1, c2, c3, c4, c5⟩ := mt_cells (m := ⟨k, g, n, i, f, v⟩) HG3.out
        simp only at c0 c1 c2 c3 c4 c5
        go_wp2_with fail
        refine (CV.out _).mono ?_
        rintro e w4 ⟨rfl, hb4⟩
        have HE4 := hide (HE3.out.trans (hb4.mono HE3.out.size))
        clear hb4 c0 c1 c2 c3 c4 c5 HG3 HE3
        go_wp2
        go_ret
        exact ⟨ret_bool (by simp [h3]), HE4.out⟩
/-- A row of changes that may be read. -/
def Ms (w : World) (pa : Option Addr) (c : Nat) (ms : List Mt) : Prop :=
  ms.length = c ∧ (0 < c → ∃ b o, pa = some ⟨b, o, none⟩ ∧ ∀ i m, ms[i]? = some m →
    w.cell? ⟨b, o + i * 6, none⟩ = some (.int .i64 m.k) ∧ w.cell? ⟨b, o + i * 6 + 1, none⟩ = some (.int .i64 m.g) ∧ w.cell? ⟨b, o + i * 6 + 2, none⟩ = some (.int .i64 m.n) ∧ w.cell? ⟨b, o + i * 6 + 3, none⟩ = some (.int .i64 m.i) ∧ w.cell? ⟨b, o + i * 6 + 4, none⟩ = some (.int .i64 m.f) ∧ w.cell? ⟨b, o + i * 6 + 5, none⟩ = some (.int .i64 m.v))

theorem Ms.later {w w' : World} {B : Nat} {pa : Option Addr} {c : Nat} {ms : List Mt} (h : Ms w pa c ms) (hb : Below B w w') (hB : w.heap.size ≤ B) : Ms w' pa c ms := by
  refine ⟨h.1, fun h0 => ?_⟩
  obtain ⟨b, o, rfl, hc⟩ := h.2 h0
  refine ⟨b, o, rfl, fun i m hm => ?_⟩
  obtain ⟨c0, c1, c2, c3, c4, c5⟩ := hc i m hm
  have hlt : b < B := Nat.lt_of_lt_of_le (lt_of_cell c0) hB
  refine ⟨?_, ?_, ?_, ?_, ?_, ?_⟩
  · rw [hb.cell (p := ⟨b, o + i * 6, none⟩) hlt]; exact c0
  · rw [hb.cell (p := ⟨b, o + i * 6 + 1, none⟩) hlt]; exact c1
  · rw [hb.cell (p := ⟨b, o + i * 6 + 2, none⟩) hlt]; exact c2
  · rw [hb.cell (p := ⟨b, o + i * 6 + 3, none⟩) hlt]; exact c3
  · rw [hb.cell (p := ⟨b, o + i * 6 + 4, none⟩) hlt]; exact c4
  · rw [hb.cell (p := ⟨b, o + i * 6 + 5, none⟩) hlt]; exact c5

end Go.Proofs.YtdogecaonlmalaaGreat
