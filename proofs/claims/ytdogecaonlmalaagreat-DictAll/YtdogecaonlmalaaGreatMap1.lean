/- Maps of one entry at most from strings to bytes; strings.Clone; copyOf. -/
import Derived.Test.YtdogecaonlmalaaGreatMut2
import Derived.MapKept
import Derived.Lib.UnsafeStr
import Derived.Lib.BufferWrite
namespace Go.Proofs.YtdogecaonlmalaaGreat
open Go.RowKit Go.MapKept

theorem bytes_beq (s : ByteArray) : (s == s) = true := by
  show (s.data == s.data) = true
  simp

theorem isKeyS (s : ByteArray) : IsKey .string (.string s) := by simp [IsKey]

theorem look_nothing {T : TypeId} (hT : Tryz.prog.underlying T = some (.map 9 112)) (s : ByteArray) (ok : Bool) (w : World) : (Instr.lookup T (.map none) (.string s) ok).run Tryz.prog w = .ok (if ok then .tuple #[.slice none 0 0, .bool false] else .slice none 0 0) w := by
  have h1 := run_checkKey (w := w) Tryz.underlying9 (isKeyS s) true 9999
  have h2 := run_findKey (w := w) (k := .string s) (l := []) (a := none) Tryz.underlying9 rfl
  cases ok <;> simp [Instr.lookup, run_underlying hT, h1, h2]

theorem look_empty {T : TypeId} (hT : Tryz.prog.underlying T = some (.map 9 112)) (s : ByteArray) (ok : Bool) (w : World) {r c : Nat} (hr : w.heap[r]? = some (.map #[] c)) : (Instr.lookup T (.map (some r)) (.string s) ok).run Tryz.prog w = .ok (if ok then .tuple #[.slice none 0 0, .bool false] else .slice none 0 0) w := by
  have h1 := run_checkKey (w := w) Tryz.underlying9 (isKeyS s) true 9999
  have h2 := run_findKey (w := w) (k := .string s) (l := []) (a := none) Tryz.underlying9 rfl
  have h3 := Go.MapKept.run_getObj_map (P := Tryz.prog) hr
  cases ok <;> simp [Instr.lookup, run_underlying hT, h1, h2, h3]

theorem look_one {T : TypeId} (hT : Tryz.prog.underlying T = some (.map 9 112)) (s : ByteArray) (ok : Bool) (w : World) {r c b : Nat} {v : Value} (hr : w.heap[r]? = some (.map #[⟨.string s, v, b⟩] c)) : (Instr.lookup T (.map (some r)) (.string s) ok).run Tryz.prog w = .ok (if ok then .tuple #[v, .bool true] else v) w := by
  have h1 := run_checkKey (w := w) Tryz.underlying9 (isKeyS s) false 9999
  have h2 := run_findKey (w := w) (k := .string s) (l := [⟨.string s, v, b⟩]) (a := some (0, v)) Tryz.underlying9 (by simp [Instr.findNow, Instr.sameNow, bytes_beq])
  have h3 := Go.MapKept.run_getObj_map (P := Tryz.prog) hr
  cases ok <;> simp [Instr.lookup, run_underlying hT, h1, h2, h3]

theorem grown_setBlock (w : World) (r : Nat) (o : Obj) : w.grownBy { w with heap := w.heap.setIfInBounds r o } (some r) :=
  ⟨rfl, rfl, rfl, by simp, fun k hk hne => by
    have : k ≠ r := fun e => hne (by rw [e])
    show (w.heap.setIfInBounds r o)[k]? = _
    rw [Array.getElem?_setIfInBounds_ne (Ne.symm this)]⟩

theorem put_first {T : TypeId} (hT : Tryz.prog.underlying T = some (.map 9 112)) (s : ByteArray) (v : Value) (w : World) {r c : Nat} (hr : w.heap[r]? = some (.map #[] c)) :
    ∃ w', (Instr.mapUpdate T (.map (some r)) (.string s) v).run Tryz.prog w = .ok () w' ∧ w'.heap[r]? = some (.map #[⟨.string s, v, c⟩] (c + 1)) ∧ w.grownBy w' (some r) := by
  have h1 := run_checkKey (w := w) Tryz.underlying9 (isKeyS s) false 9999
  have h2 := run_findKey (w := w) (k := .string s) (l := []) (a := none) Tryz.underlying9 rfl
  have h3 := Go.MapKept.run_getObj_map (P := Tryz.prog) hr
  have h4 := Go.MapKept.run_setObj_map (P := Tryz.prog) (.map #[⟨.string s, v, c⟩] (c + 1)) hr
  refine ⟨_, by simp [Instr.mapUpdate, run_underlying hT, h1, h2, h3, h4]; rfl, ?_, grown_setBlock w r _⟩
  have hlt := (Array.getElem?_eq_some_iff.1 hr).1
  simp [hlt]

theorem put_again {T : TypeId} (hT : Tryz.prog.underlying T = some (.map 9 112)) (s : ByteArray) (v v' : Value) (w : World) {r c b : Nat} (hr : w.heap[r]? = some (.map #[⟨.string s, v, b⟩] c)) :
    ∃ w', (Instr.mapUpdate T (.map (some r)) (.string s) v').run Tryz.prog w = .ok () w' ∧ w'.heap[r]? = some (.map #[⟨.string s, v', b⟩] c) ∧ w.grownBy w' (some r) := by
  have h1 := run_checkKey (w := w) Tryz.underlying9 (isKeyS s) false 9999
  have h2 := run_findKey (w := w) (k := .string s) (l := [⟨.string s, v, b⟩]) (a := some (0, v)) Tryz.underlying9 (by simp [Instr.findNow, Instr.sameNow, bytes_beq])
  have h3 := Go.MapKept.run_getObj_map (P := Tryz.prog) hr
  have h4 := Go.MapKept.run_setObj_map (P := Tryz.prog) (.map #[⟨.string s, v', b⟩] c) hr
  refine ⟨_, by simp [Instr.mapUpdate, run_underlying hT, h1, h2, h3, Instr.keyThatStays, Instr.sameBits, bytes_beq, h4]; rfl, ?_, grown_setBlock w r _⟩
  have hlt := (Array.getElem?_eq_some_iff.1 hr).1
  simp [hlt]

theorem infoB0 : Tryz.prog.cellsOf 5 = 1 := by kernel_rfl

/-- What make([]byte, n) lays. -/
theorem made_bytes (n : Nat) (hn : n ≤ 1099511627776) (w : World) : (Instr.makeSlice 112 (.int .i64 n) (.int .i64 (n : Int))).run Tryz.prog w = .ok (.slice (some ⟨w.heap.size, 0, none⟩) n n) (w.alloc (.cells (madeCells #[.int .u8 0] n) 5)) := by
  obtain ⟨i0, hi, hz0, hz1, hz2⟩ := info_parts infoB
  rw [run_make (P := Tryz.prog) w 112 5 i0 _ Tryz.underlying112 hi hz0 .i64 .i64 n (n : Int) (by omega) (by omega) (by rw [hz2]; omega) (by omega), hz1, Int.toNat_natCast, Nat.mul_one]
  rfl

/-- A string's bytes as a row. -/
def strRow (s : ByteArray) : Array Value := (Lib.byteCells s.data.toList).toArray
theorem strRow_size (s : ByteArray) : (strRow s).size = s.size := by simp [strRow, Lib.byteCells]

/-- copy of a string into a row of just its length: the row is the string's. -/
theorem fill_row (s : ByteArray) (g : Nat) (cur : Array Value) (w : World) (hg : w.heap[g]? = some (.cells cur 5 (0, 0))) (hs : cur.size = s.size) :
    (Builtin.copy_ #[112, 9] 3 #[.slice (some ⟨g, 0, none⟩) s.size s.size, .string s]).run Tryz.prog w = .ok (goInt s.size) (w.setRow g (strRow s)) := by
  have h := Lib.run_copy_row_string w 112 9 3 5 g 0 s.size s.size s cur 5 Tryz.underlying112 sizeB hg (Nat.le_refl _) (by omega)
  have hd : cur.toList.drop s.size = [] := List.drop_eq_nil_of_le (by simp [hs])
  simpa [strRow, hd] using h

/-- A row that is a string's, told as a string. -/
theorem told_row (s : ByteArray) (g : Nat) (w : World) (h0 : ¬ s.size = 0) (hlim : s.size ≤ 1000000) (hg : w.heap[g]? = some (.cells (strRow s) 5 (0, 0))) :
    (Builtin.unsafeString_ #[220, 3] 9 #[.pointer (some ⟨g, 0, none⟩), .int .i64 s.size]).run Tryz.prog w = .ok (.string s) (w.freeze ⟨g, 0, none⟩ s.size) := by
  have el : s.data.toList.length = s.size := by simp
  have hsh : w.shape? g = some (5, s.size) := by simp [World.shape?, hg, strRow_size]
  have hc : ∀ j x, s.data.toList[j]? = some x → w.cell? ((⟨g, 0, none⟩ : Addr).add j) = some (.int .u8 x.toNat) := by
    intro j x hx
    rw [Go.Proofs.YtdogecaonlmalaaGreat.add_none, Nat.zero_add]
    have hx' : (strRow s)[j]? = some (.int .u8 x.toNat) := by
      rw [strRow, List.getElem?_toArray, Lib.byteCells, List.getElem?_map, hx]; rfl
    simp [World.cell?, hg, hx']
  have h := Lib.run_unsafeString_row (P := Tryz.prog) (w := w) 220 3 9 5 Tryz.underlying220 infoB0 g s.size hsh s.data.toList (by intro e; rw [e] at el; exact h0 el.symm) (by omega) (by omega) hc
  rwa [el] at h

set_option maxRecDepth 100000 in
set_option maxHeartbeats 800000 in
theorem clone_lite (s : ByteArray) (w : World) (h0 : ¬ s.size = 0) (hlim : s.size ≤ 1000000) :
    Calls Tryz.prog 151 #[.string s] w fun e w' => e = .returned (.string s) ∧ Below w.heap.size w w' := by
  have mk := fun W => made_bytes s.size (by omega) W
  have hz : (madeCells #[Value.int .u8 0] s.size).size = s.size := by simp [size_madeCells]
  obtain ⟨Z, hZ⟩ : ∃ Z, Z = madeCells #[Value.int .u8 0] s.size := ⟨_, rfl⟩
  rw [← hZ] at hz
  simp only [← hZ] at mk
  have fl := fill_row s w.heap.size Z (w.alloc (.cells Z 5)) (heap_alloc_new w _) hz
  have tl := told_row s w.heap.size _ h0 hlim (setRow_heap (w.alloc (.cells Z 5)) _ Z (strRow s) 5 (0, 0) (heap_alloc_new w _))
  have hf : Hid (Below w.heap.size w (((w.alloc (.cells Z 5)).setRow w.heap.size (strRow s)).freeze ⟨w.heap.size, 0, none⟩ s.size)) := Lib.below_freeze (below_setRow (below_alloc w _ _ (Nat.le_refl _)) (Nat.le_refl _) _) (Nat.le_refl _) _
  clear hZ
  go_enter Tryz.func151, Tryz.ntmps151
  go_wp2
  go_ret
  exact ⟨rfl, hf.out⟩

set_option maxRecDepth 100000 in
theorem clone_any (s : ByteArray) (w : World) (h0 : ¬ s.size = 0) (hlim : s.size ≤ 1000000) :
    Calls Tryz.prog 128 #[.string s] w fun e w' => e = .returned (.string s) ∧ Below w.heap.size w w' := by
  go_enter Tryz.func128, Tryz.ntmps128
  go_wp2_with fail
  refine (clone_lite s _ h0 hlim).mono ?_
  rintro e w1 ⟨rfl, hb⟩
  go_wp2
  go_ret
  exact ⟨rfl, hb⟩

set_option maxRecDepth 100000 in
set_option maxHeartbeats 400000 in
theorem copyOfS (a : Option Addr) (n cap : Nat) (l : List Int) (w : World) (h : Bs w a n cap l) (hn : n ≤ 1099511627776) :
    Calls Tryz.prog 127 #[.slice a n cap] w fun e w' => e = .returned (.slice (some ⟨w.heap.size, 0, none⟩) n n) ∧
      w'.ownsInts w.heap.size 5 .u8 (.slice (some ⟨w.heap.size, 0, none⟩) n n) l ∧ Below w.heap.size w w' := by
  obtain ⟨i0, hi, hz0, hz1, hz2⟩ := info_parts infoB
  have hmk : ∀ w : World, (Instr.makeSlice 112 (.int .i64 n) (.int .i64 (n : Int))).run Tryz.prog w = .ok (.slice (some ⟨w.heap.size, 0, none⟩) n n) (w.alloc (.cells (madeCells #[.int .u8 0] n) 5)) := by
    intro w
    have := run_make (P := Tryz.prog) w 112 5 i0 _ Tryz.underlying112 hi hz0 .i64 .i64 n (n : Int) (by omega) (by omega) (by rw [hz2]; omega) (by omega)
    rw [this, hz1]
    have e1 : ((n : Int)).toNat = n := by omega
    rw [e1, Nat.mul_one]
    rfl
  clear hi hz0 hz1 hz2
  obtain ⟨h1, h2, h3, h4, h5, h6⟩ := h
  have H1 : Hid (l.length = n) := h1
  clear h1
  obtain ⟨X, eX⟩ : ∃ X, X = l.map (Value.int .u8) := ⟨_, rfl⟩
  obtain ⟨Z, eZ⟩ : ∃ Z, Z = List.replicate n (Value.int .u8 0) := ⟨_, rfl⟩
  have EX : Hid (X = l.map (Value.int .u8)) := eX
  have EZ : Hid (Z = List.replicate n (Value.int .u8 0)) := eZ
  clear eX eZ
  go_enter Tryz.func127, Tryz.ntmps127
  go_wp2_with (refine wpList_copy_splice rfl (.tmp 7) (.tmp 8) 112 112 rfl 5 Tryz.underlying112 sizeB (some ⟨w.heap.size, 0, none⟩) a n n n cap rfl rfl w.heap.size 0 Z 5 ?hg X ?hn ?hpos ?hfit ?h1 w.heap.size w ?hb ?hBg ?_)
  case hg =>
    rw [EZ.out, ← toList_madeCells_one]
    show (w.heap.push _)[w.heap.size]? = _
    simp
  case hn => rw [EX.out]; simp [H1.out]
  case hpos =>
    intro hp
    rw [EX.out] at hp
    obtain ⟨b, o, rfl, hc⟩ := h5 (by simpa [H1.out] using hp)
    refine ⟨_, rfl, fun j v hj => ?_⟩
    rw [EX.out] at hj
    have hjl : j < n := by
      have := (List.getElem?_eq_some_iff.1 hj).1
      simpa [H1.out] using this
    have hcj := hc j hjl
    have hlt := lt_of_cell hcj
    have e : (⟨b, o, none⟩ : Addr).add j = ⟨b, o + j, none⟩ := by unfold Addr.add; split <;> simp_all
    rw [e, ((Below.refl w.heap.size w).alloc (Nat.le_refl _) _).cell (p := ⟨b, o + j, none⟩) hlt, hcj]
    simp only [List.getElem?_map] at hj
    rw [List.getD_eq_getElem?_getD]
    cases hl : l[j]? with
    | none => simp [hl] at hj
    | some x => simp [hl] at hj; simp [hj]
  case hfit => rw [EX.out, EZ.out]; simp [H1.out]
  case h1 => intro v hv; rw [EX.out] at hv; simp at hv; obtain ⟨x, _, rfl⟩ := hv; rfl
  case hb => exact (Below.refl _ _).alloc (Nat.le_refl _) _
  case hBg => exact Nat.le_refl _
  intro w' hg hb
  clear hmk h5
  go_wp2
  go_ret
  refine ⟨rfl, ⟨?_, fun z hz => wf_u8 (h6 z hz)⟩, hb⟩
  rw [H1.out]
  refine ⟨by simp [H1.out], .inr ⟨_, _, _, rfl, Nat.le_refl _, hg.out, by omega, by simp [maxLen]; omega, ?_, ?_⟩⟩
  · simp only [List.size_toArray]
    rw [length_splice _ _ _ (by rw [EX.out, EZ.out]; simp [H1.out]), EZ.out]
    simp
  · rw [EX.out, EZ.out]
    simp [splice]
    rw [List.take_append_of_le_length (by simp [H1.out])]
    exact List.take_of_length_le (by simp [H1.out])

set_option maxRecDepth 100000 in
set_option maxHeartbeats 400000 in
theorem copyOfD (a : Option Addr) (n cap : Nat) (l : List Int) (w : World) (h : Bs w a n cap l) (hn : n ≤ 1099511627776) :
    Calls Tryz.prog 105 #[.slice a n cap] w fun e w' => e = .returned (.slice (some ⟨w.heap.size, 0, none⟩) n n) ∧
      w'.ownsInts w.heap.size 5 .u8 (.slice (some ⟨w.heap.size, 0, none⟩) n n) l ∧ Below w.heap.size w w' := by
  obtain ⟨i0, hi, hz0, hz1, hz2⟩ := info_parts infoB
  have hmk : ∀ w : World, (Instr.makeSlice 112 (.int .i64 n) (.int .i64 (n : Int))).run Tryz.prog w = .ok (.slice (some ⟨w.heap.size, 0, none⟩) n n) (w.alloc (.cells (madeCells #[.int .u8 0] n) 5)) := by
    intro w
    have := run_make (P := Tryz.prog) w 112 5 i0 _ Tryz.underlying112 hi hz0 .i64 .i64 n (n : Int) (by omega) (by omega) (by rw [hz2]; omega) (by omega)
    rw [this, hz1]
    have e1 : ((n : Int)).toNat = n := by omega
    rw [e1, Nat.mul_one]
    rfl
  clear hi hz0 hz1 hz2
  obtain ⟨h1, h2, h3, h4, h5, h6⟩ := h
  have H1 : Hid (l.length = n) := h1
  clear h1
  obtain ⟨X, eX⟩ : ∃ X, X = l.map (Value.int .u8) := ⟨_, rfl⟩
  obtain ⟨Z, eZ⟩ : ∃ Z, Z = List.replicate n (Value.int .u8 0) := ⟨_, rfl⟩
  have EX : Hid (X = l.map (Value.int .u8)) := eX
  have EZ : Hid (Z = List.replicate n (Value.int .u8 0)) := eZ
  clear eX eZ
  go_enter Tryz.func105, Tryz.ntmps105
  go_wp2_with (refine wpList_copy_splice rfl (.tmp 7) (.tmp 8) 112 112 rfl 5 Tryz.underlying112 sizeB (some ⟨w.heap.size, 0, none⟩) a n n n cap rfl rfl w.heap.size 0 Z 5 ?hg X ?hn ?hpos ?hfit ?h1 w.heap.size w ?hb ?hBg ?_)
  case hg =>
    rw [EZ.out, ← toList_madeCells_one]
    show (w.heap.push _)[w.heap.size]? = _
    simp
  case hn => rw [EX.out]; simp [H1.out]
  case hpos =>
    intro hp
    rw [EX.out] at hp
    obtain ⟨b, o, rfl, hc⟩ := h5 (by simpa [H1.out] using hp)
    refine ⟨_, rfl, fun j v hj => ?_⟩
    rw [EX.out] at hj
    have hjl : j < n := by
      have := (List.getElem?_eq_some_iff.1 hj).1
      simpa [H1.out] using this
    have hcj := hc j hjl
    have hlt := lt_of_cell hcj
    have e : (⟨b, o, none⟩ : Addr).add j = ⟨b, o + j, none⟩ := by unfold Addr.add; split <;> simp_all
    rw [e, ((Below.refl w.heap.size w).alloc (Nat.le_refl _) _).cell (p := ⟨b, o + j, none⟩) hlt, hcj]
    simp only [List.getElem?_map] at hj
    rw [List.getD_eq_getElem?_getD]
    cases hl : l[j]? with
    | none => simp [hl] at hj
    | some x => simp [hl] at hj; simp [hj]
  case hfit => rw [EX.out, EZ.out]; simp [H1.out]
  case h1 => intro v hv; rw [EX.out] at hv; simp at hv; obtain ⟨x, _, rfl⟩ := hv; rfl
  case hb => exact (Below.refl _ _).alloc (Nat.le_refl _) _
  case hBg => exact Nat.le_refl _
  intro w' hg hb
  clear hmk h5
  go_wp2
  go_ret
  refine ⟨rfl, ⟨?_, fun z hz => wf_u8 (h6 z hz)⟩, hb⟩
  rw [H1.out]
  refine ⟨by simp [H1.out], .inr ⟨_, _, _, rfl, Nat.le_refl _, hg.out, by omega, by simp [maxLen]; omega, ?_, ?_⟩⟩
  · simp only [List.size_toArray]
    rw [length_splice _ _ _ (by rw [EX.out, EZ.out]; simp [H1.out]), EZ.out]
    simp
  · rw [EX.out, EZ.out]
    simp [splice]
    rw [List.take_append_of_le_length (by simp [H1.out])]
    exact List.take_of_length_le (by simp [H1.out])


end Go.Proofs.YtdogecaonlmalaaGreat
