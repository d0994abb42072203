/- Maps of one entry at most from strings to bytes; strings.Clone; copyOf. -/
import Derived.Test.YtgpfpmocdmeldaaMut2
import Derived.MapKept
import Derived.Lib.UnsafeStr
import Derived.Lib.BufferWrite
namespace Go.Proofs.Ytgpfpmocdmeldaa
open Go.RowKit Go.MapKept

theorem bytes_beq (s : ByteArray) : (s == s) = true := by
  show (s.data == s.data) = true
  simp

theorem isKeyS (s : ByteArray) : IsKey .string (.string s) := by simp [IsKey]

theorem look_nothing {T : TypeId} (hT : Try.prog.underlying T = some (.map 9 32)) (s : ByteArray) (ok : Bool) (w : World) : (Instr.lookup T (.map none) (.string s) ok).run Try.prog w = .ok (if ok then .tuple #[.slice none 0 0, .bool false] else .slice none 0 0) w := by
  have h1 := run_checkKey (w := w) Try.underlying9 (isKeyS s) true 9999
  have h2 := run_findKey (w := w) (k := .string s) (l := []) (a := none) Try.underlying9 rfl
  cases ok <;> simp [Instr.lookup, run_underlying hT, h1, h2]

theorem look_empty {T : TypeId} (hT : Try.prog.underlying T = some (.map 9 32)) (s : ByteArray) (ok : Bool) (w : World) {r c : Nat} (hr : w.heap[r]? = some (.map #[] c)) : (Instr.lookup T (.map (some r)) (.string s) ok).run Try.prog w = .ok (if ok then .tuple #[.slice none 0 0, .bool false] else .slice none 0 0) w := by
  have h1 := run_checkKey (w := w) Try.underlying9 (isKeyS s) true 9999
  have h2 := run_findKey (w := w) (k := .string s) (l := []) (a := none) Try.underlying9 rfl
  have h3 := Go.MapKept.run_getObj_map (P := Try.prog) hr
  cases ok <;> simp [Instr.lookup, run_underlying hT, h1, h2, h3]

theorem look_one {T : TypeId} (hT : Try.prog.underlying T = some (.map 9 32)) (s : ByteArray) (ok : Bool) (w : World) {r c b : Nat} {v : Value} (hr : w.heap[r]? = some (.map #[⟨.string s, v, b⟩] c)) : (Instr.lookup T (.map (some r)) (.string s) ok).run Try.prog w = .ok (if ok then .tuple #[v, .bool true] else v) w := by
  have h1 := run_checkKey (w := w) Try.underlying9 (isKeyS s) false 9999
  have h2 := run_findKey (w := w) (k := .string s) (l := [⟨.string s, v, b⟩]) (a := some (0, v)) Try.underlying9 (by simp [Instr.findNow, Instr.sameNow, bytes_beq])
  have h3 := Go.MapKept.run_getObj_map (P := Try.prog) hr
  cases ok <;> simp [Instr.lookup, run_underlying hT, h1, h2, h3]

theorem grown_setBlock (w : World) (r : Nat) (o : Obj) : w.grownBy { w with heap := w.heap.setIfInBounds r o } (some r) :=
  ⟨rfl, rfl, rfl, by simp, fun k hk hne => by
    have : k ≠ r := fun e => hne (by rw [e])
    show (w.heap.setIfInBounds r o)[k]? = _
    rw [Array.getElem?_setIfInBounds_ne (Ne.symm this)]⟩

theorem put_first {T : TypeId} (hT : Try.prog.underlying T = some (.map 9 32)) (s : ByteArray) (v : Value) (w : World) {r c : Nat} (hr : w.heap[r]? = some (.map #[] c)) :
    ∃ w', (Instr.mapUpdate T (.map (some r)) (.string s) v).run Try.prog w = .ok () w' ∧ w'.heap[r]? = some (.map #[⟨.string s, v, c⟩] (c + 1)) ∧ w.grownBy w' (some r) := by
  have h1 := run_checkKey (w := w) Try.underlying9 (isKeyS s) false 9999
  have h2 := run_findKey (w := w) (k := .string s) (l := []) (a := none) Try.underlying9 rfl
  have h3 := Go.MapKept.run_getObj_map (P := Try.prog) hr
  have h4 := Go.MapKept.run_setObj_map (P := Try.prog) (.map #[⟨.string s, v, c⟩] (c + 1)) hr
  refine ⟨_, by simp [Instr.mapUpdate, run_underlying hT, h1, h2, h3, h4]; rfl, ?_, grown_setBlock w r _⟩
  have hlt := (Array.getElem?_eq_some_iff.1 hr).1
  simp [hlt]

theorem put_again {T : TypeId} (hT : Try.prog.underlying T = some (.map 9 32)) (s : ByteArray) (v v' : Value) (w : World) {r c b : Nat} (hr : w.heap[r]? = some (.map #[⟨.string s, v, b⟩] c)) :
    ∃ w', (Instr.mapUpdate T (.map (some r)) (.string s) v').run Try.prog w = .ok () w' ∧ w'.heap[r]? = some (.map #[⟨.string s, v', b⟩] c) ∧ w.grownBy w' (some r) := by
  have h1 := run_checkKey (w := w) Try.underlying9 (isKeyS s) false 9999
  have h2 := run_findKey (w := w) (k := .string s) (l := [⟨.string s, v, b⟩]) (a := some (0, v)) Try.underlying9 (by simp [Instr.findNow, Instr.sameNow, bytes_beq])
  have h3 := Go.MapKept.run_getObj_map (P := Try.prog) hr
  have h4 := Go.MapKept.run_setObj_map (P := Try.prog) (.map #[⟨.string s, v', b⟩] c) hr
  refine ⟨_, by simp [Instr.mapUpdate, run_underlying hT, h1, h2, h3, Instr.keyThatStays, Instr.sameBits, bytes_beq, h4]; rfl, ?_, grown_setBlock w r _⟩
  have hlt := (Array.getElem?_eq_some_iff.1 hr).1
  simp [hlt]

theorem infoB0 : Try.prog.cellsOf 5 = 1 := by kernel_rfl

set_option maxRecDepth 100000 in
set_option maxHeartbeats 800000 in
theorem clone_lite (s : ByteArray) (w : World) (h0 : ¬ s.size = 0) (hlim : s.size ≤ 1000000) :
    Calls Try.prog 93 #[.string s] w fun e w' => e = .returned (.string s) ∧ Below w.heap.size w w' := by
  obtain ⟨i0, hi, hz0, hz1, hz2⟩ := info_parts infoB
  obtain ⟨N, hN⟩ : ∃ N, N = madeCells (Value.int .u8 0).cells (((s.size : Nat) : Int).toNat * i0.size) := ⟨_, rfl⟩
  have hNs : N.size = s.size := by rw [hN, size_madeCells, hz1]; simp
  have hmk : ∀ W : World, (Instr.makeSlice 32 (.int .i64 (s.size : Int)) (.int .i64 (s.size : Int))).run Try.prog W = .ok (.slice (some ⟨W.heap.size, 0, none⟩) s.size s.size) (W.alloc (.cells N 5)) := fun W => by
    have h := run_make (P := Try.prog) W 32 5 i0 (.int .u8 0) Try.underlying32 hi hz0 .i64 .i64 (s.size : Int) (s.size : Int) (by omega) (by omega) (by rw [hz2]; omega) (by omega)
    rw [← hN] at h
    simpa using h
  clear hN
  have hcp := Lib.run_copy_row_string (P := Try.prog) (w.alloc (.cells N 5)) 32 9 3 5 w.heap.size 0 s.size s.size s N 5 Try.underlying32 sizeB (heap_alloc_new w _) (Nat.le_refl _) (by omega)
  obtain ⟨Y, hY⟩ : ∃ Y, Y = (N.toList.take 0 ++ Lib.byteCells s.data.toList ++ N.toList.drop (0 + s.size)).toArray := ⟨_, rfl⟩
  rw [← hY] at hcp
  have hYl : Y.toList = Lib.byteCells s.data.toList := by
    rw [hY, List.toList_toArray, List.take_zero, List.nil_append, List.drop_of_length_le (by rw [Array.length_toList]; omega), List.append_nil]
  have hYs : Y.size = s.size := by rw [← Array.length_toList, hYl, Lib.byteCells_length, ← Lib.size_eq]
  have hgY : ((w.alloc (.cells N 5)).setRow w.heap.size Y).heap[w.heap.size]? = some (.cells Y 5 (0, 0)) := setRow_heap _ _ N _ 5 (0, 0) (heap_alloc_new w _)
  have hne : s.data.toList ≠ [] := fun e => h0 (by rw [Lib.size_eq, e]; rfl)
  have hUS := Lib.run_unsafeString_row (P := Try.prog) ((w.alloc (.cells N 5)).setRow w.heap.size Y) 142 3 9 5 Try.underlying142 infoB0 w.heap.size Y.size (by unfold World.shape?; rw [hgY]) s.data.toList hne (by rw [← Lib.size_eq]; omega) (by rw [← Lib.size_eq]; omega)
    (fun j x hx => Lib.cells_of_row hgY Y.size j _ (by rw [List.take_of_length_le (by rw [Array.length_toList]; exact Nat.le_refl _), hYl]; simp [Lib.byteCells, hx]))
  rw [← Lib.size_eq] at hUS
  have hb1 : Below w.heap.size w ((w.alloc (.cells N 5)).setRow w.heap.size Y) := below_setRow (below_alloc w _ _ (Nat.le_refl _)) (Nat.le_refl _) _
  have HB := hide (Lib.below_freeze hb1 (p := ⟨w.heap.size, 0, none⟩) (Nat.le_refl _) s.size)
  clear hY hYl hgY hb1 hi hz0 hz1 hz2
  go_enter Try.func93, Try.ntmps93
  go_wp2
  go_ret
  exact ⟨rfl, HB.out⟩

set_option maxRecDepth 100000 in
theorem clone_any (s : ByteArray) (w : World) (h0 : ¬ s.size = 0) (hlim : s.size ≤ 1000000) :
    Calls Try.prog 76 #[.string s] w fun e w' => e = .returned (.string s) ∧ Below w.heap.size w w' := by
  go_enter Try.func76, Try.ntmps76
  go_wp2_with fail
  refine (clone_lite s _ h0 hlim).mono ?_
  rintro e w1 ⟨rfl, hb⟩
  go_wp2
  go_ret
  exact ⟨rfl, hb⟩

set_option maxRecDepth 100000 in
set_option maxHeartbeats 400000 in
theorem copyOfS (a : Option Addr) (n cap : Nat) (l : List Int) (w : World) (h : Bs w a n cap l) (hn : n ≤ 1099511627776) :
    Calls Try.prog 75 #[.slice a n cap] w fun e w' => e = .returned (.slice (some ⟨w.heap.size, 0, none⟩) n n) ∧
      w'.ownsInts w.heap.size 5 .u8 (.slice (some ⟨w.heap.size, 0, none⟩) n n) l ∧ Below w.heap.size w w' := by
  obtain ⟨i0, hi, hz0, hz1, hz2⟩ := info_parts infoB
  have hmk : ∀ w : World, (Instr.makeSlice 32 (.int .i64 n) (.int .i64 (n : Int))).run Try.prog w = .ok (.slice (some ⟨w.heap.size, 0, none⟩) n n) (w.alloc (.cells (madeCells #[.int .u8 0] n) 5)) := by
    intro w
    have := run_make (P := Try.prog) w 32 5 i0 _ Try.underlying32 hi hz0 .i64 .i64 n (n : Int) (by omega) (by omega) (by rw [hz2]; omega) (by omega)
    rw [this, hz1]
    have e1 : ((n : Int)).toNat = n := by omega
    rw [e1, Nat.mul_one]
    rfl
  clear hi hz0 hz1 hz2
  obtain ⟨h1, h2, h3, h4, h5, h6⟩ := h
  have H1 : Hid (l.length = n) := h1
  clear h1
  obtain ⟨X, eX⟩ : ∃ X, X = l.map (Value.int .u8) := ⟨_, rfl⟩
  obtain ⟨Z, eZ⟩ : ∃ Z, Z = List.replicate n (Value.int .u8 0) := ⟨_, rfl⟩
  have EX : Hid (X = l.map (Value.int .u8)) := eX
  have EZ : Hid (Z = List.replicate n (Value.int .u8 0)) := eZ
  clear eX eZ
  go_enter Try.func75, Try.ntmps75
  go_wp2_with (refine wpList_copy_splice rfl (.tmp 7) (.tmp 8) 32 32 rfl 5 Try.underlying32 sizeB (some ⟨w.heap.size, 0, none⟩) a n n n cap rfl rfl w.heap.size 0 Z 5 ?hg X ?hn ?hpos ?hfit ?h1 w.heap.size w ?hb ?hBg ?_)
  case hg =>
    rw [EZ.out, ← toList_madeCells_one]
    show (w.heap.push _)[w.heap.size]? = _
    simp
  case hn => rw [EX.out]; simp [H1.out]
  case hpos =>
    intro hp
    rw [EX.out] at hp
    obtain ⟨b, o, rfl, hc⟩ := h5 (by simpa [H1.out] using hp)
    refine ⟨_, rfl, fun j v hj => ?_⟩
    rw [EX.out] at hj
    have hjl : j < n := by
      have := (List.getElem?_eq_some_iff.1 hj).1
      simpa [H1.out] using this
    have hcj := hc j hjl
    have hlt := lt_of_cell hcj
    have e : (⟨b, o, none⟩ : Addr).add j = ⟨b, o + j, none⟩ := by unfold Addr.add; split <;> simp_all
    rw [e, ((Below.refl w.heap.size w).alloc (Nat.le_refl _) _).cell (p := ⟨b, o + j, none⟩) hlt, hcj]
    simp only [List.getElem?_map] at hj
    rw [List.getD_eq_getElem?_getD]
    cases hl : l[j]? with
    | none => simp [hl] at hj
    | some x => simp [hl] at hj; simp [hj]
  case hfit => rw [EX.out, EZ.out]; simp [H1.out]
  case h1 => intro v hv; rw [EX.out] at hv; simp at hv; obtain ⟨x, _, rfl⟩ := hv; rfl
  case hb => exact (Below.refl _ _).alloc (Nat.le_refl _) _
  case hBg => exact Nat.le_refl _
  intro w' hg hb
  clear hmk h5
  go_wp2
  go_ret
  refine ⟨rfl, ⟨?_, fun z hz => wf_u8 (h6 z hz)⟩, hb⟩
  rw [H1.out]
  refine ⟨by simp [H1.out], .inr ⟨_, _, _, rfl, Nat.le_refl _, hg.out, by omega, by simp [maxLen]; omega, ?_, ?_⟩⟩
  · simp only [List.size_toArray]
    rw [length_splice _ _ _ (by rw [EX.out, EZ.out]; simp [H1.out]), EZ.out]
    simp
  · rw [EX.out, EZ.out]
    simp [splice]
    rw [List.take_append_of_le_length (by simp [H1.out])]
    exact List.take_of_length_le (by simp [H1.out])

set_option maxRecDepth 100000 in
set_option maxHeartbeats 400000 in
theorem copyOfD (a : Option Addr) (n cap : Nat) (l : List Int) (w : World) (h : Bs w a n cap l) (hn : n ≤ 1099511627776) :
    Calls Try.prog 52 #[.slice a n cap] w fun e w' => e = .returned (.slice (some ⟨w.heap.size, 0, none⟩) n n) ∧
      w'.ownsInts w.heap.size 5 .u8 (.slice (some ⟨w.heap.size, 0, none⟩) n n) l ∧ Below w.heap.size w w' := by
  obtain ⟨i0, hi, hz0, hz1, hz2⟩ := info_parts infoB
  have hmk : ∀ w : World, (Instr.makeSlice 32 (.int .i64 n) (.int .i64 (n : Int))).run Try.prog w = .ok (.slice (some ⟨w.heap.size, 0, none⟩) n n) (w.alloc (.cells (madeCells #[.int .u8 0] n) 5)) := by
    intro w
    have := run_make (P := Try.prog) w 32 5 i0 _ Try.underlying32 hi hz0 .i64 .i64 n (n : Int) (by omega) (by omega) (by rw [hz2]; omega) (by omega)
    rw [this, hz1]
    have e1 : ((n : Int)).toNat = n := by omega
    rw [e1, Nat.mul_one]
    rfl
  clear hi hz0 hz1 hz2
  obtain ⟨h1, h2, h3, h4, h5, h6⟩ := h
  have H1 : Hid (l.length = n) := h1
  clear h1
  obtain ⟨X, eX⟩ : ∃ X, X = l.map (Value.int .u8) := ⟨_, rfl⟩
  obtain ⟨Z, eZ⟩ : ∃ Z, Z = List.replicate n (Value.int .u8 0) := ⟨_, rfl⟩
  have EX : Hid (X = l.map (Value.int .u8)) := eX
  have EZ : Hid (Z = List.replicate n (Value.int .u8 0)) := eZ
  clear eX eZ
  go_enter Try.func52, Try.ntmps52
  go_wp2_with (refine wpList_copy_splice rfl (.tmp 7) (.tmp 8) 32 32 rfl 5 Try.underlying32 sizeB (some ⟨w.heap.size, 0, none⟩) a n n n cap rfl rfl w.heap.size 0 Z 5 ?hg X ?hn ?hpos ?hfit ?h1 w.heap.size w ?hb ?hBg ?_)
  case hg =>
    rw [EZ.out, ← toList_madeCells_one]
    show (w.heap.push _)[w.heap.size]? = _
    simp
  case hn => rw [EX.out]; simp [H1.out]
  case hpos =>
    intro hp
    rw [EX.out] at hp
    obtain ⟨b, o, rfl, hc⟩ := h5 (by simpa [H1.out] using hp)
    refine ⟨_, rfl, fun j v hj => ?_⟩
    rw [EX.out] at hj
    have hjl : j < n := by
      have := (List.getElem?_eq_some_iff.1 hj).1
      simpa [H1.out] using this
    have hcj := hc j hjl
    have hlt := lt_of_cell hcj
    have e : (⟨b, o, none⟩ : Addr).add j = ⟨b, o + j, none⟩ := by unfold Addr.add; split <;> simp_all
    rw [e, ((Below.refl w.heap.size w).alloc (Nat.le_refl _) _).cell (p := ⟨b, o + j, none⟩) hlt, hcj]
    simp only [List.getElem?_map] at hj
    rw [List.getD_eq_getElem?_getD]
    cases hl : l[j]? with
    | none => simp [hl] at hj
    | some x => simp [hl] at hj; simp [hj]
  case hfit => rw [EX.out, EZ.out]; simp [H1.out]
  case h1 => intro v hv; rw [EX.out] at hv; simp at hv; obtain ⟨x, _, rfl⟩ := hv; rfl
  case hb => exact (Below.refl _ _).alloc (Nat.le_refl _) _
  case hBg => exact Nat.le_refl _
  intro w' hg hb
  clear hmk h5
  go_wp2
  go_ret
  refine ⟨rfl, ⟨?_, fun z hz => wf_u8 (h6 z hz)⟩, hb⟩
  rw [H1.out]
  refine ⟨by simp [H1.out], .inr ⟨_, _, _, rfl, Nat.le_refl _, hg.out, by omega, by simp [maxLen]; omega, ?_, ?_⟩⟩
  · simp only [List.size_toArray]
    rw [length_splice _ _ _ (by rw [EX.out, EZ.out]; simp [H1.out]), EZ.out]
    simp
  · rw [EX.out, EZ.out]
    simp [splice]
    rw [List.take_append_of_le_length (by simp [H1.out])]
    exact List.take_of_length_le (by simp [H1.out])


end Go.Proofs.Ytgpfpmocdmeldaa
