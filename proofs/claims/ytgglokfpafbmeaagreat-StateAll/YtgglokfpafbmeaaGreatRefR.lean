/- The document's state made; copied. -/
import Derived.Test.YtgglokfpafbmeaaGreatRefQ
import Derived.Deep.LoopGhost
namespace Go.Proofs.YtgglokfpafbmeaaGreat
open Go.RowKit Go.MapKept Go.ChangeMaps

/-- Every cell is a spot's. -/
theorem spot_of {o : Nat} (h : o < 3648) : ∃ κ t, InK κ ∧ t < 19 ∧ o = offK κ + t := by
  have h1 : o / 912 < 4 := by omega
  have h2 : o % 912 / 456 < 2 := by omega
  have h3 : o % 456 / 19 < 24 := by omega
  refine ⟨kN (o / 912) (o % 912 / 456) (o % 456 / 19) h1 h2 h3, o % 19, ⟨?_, ?_, ?_, ?_, ?_, ?_⟩, by omega, ?_⟩
  · show (0 : Int) ≤ ((o / 912 : Nat) : Int); omega
  · show ((o / 912 : Nat) : Int) < 4; omega
  · show (0 : Int) ≤ ((o % 912 / 456 : Nat) : Int); omega
  · show ((o % 912 / 456 : Nat) : Int) < 2; omega
  · show (0 : Int) ≤ ((o % 456 / 19 : Nat) : Int); omega
  · show ((o % 456 / 19 : Nat) : Int) < 24; omega
  · show o = ((o / 912 : Nat) : Int).toNat * 912 + ((o % 912 / 456 : Nat) : Int).toNat * 456 + ((o % 456 / 19 : Nat) : Int).toNat * 19 + o % 19
    omega
theorem SpOK.one {c : Nat → Value} {κ : K3} {V : Option Int} {L : List Int} {D : List (Int × Int)} {l : Value} (h : SpOK c κ V L D l) (hl : l.oneCell' = true) {t : Nat} (ht : t < 19) : (c (offK κ + t)).oneCell' = true := by
  rcases Nat.lt_or_ge t 3 with h1 | h1
  · rcases (show t = 0 ∨ t = 1 ∨ t = 2 by omega) with rfl | rfl | rfl
    · rw [Nat.add_zero, h.h]; rfl
    · rw [h.v]; rfl
    · rw [h.l]; exact hl
  · rcases Nat.lt_or_ge t 11 with h2 | h2
    · have := h.i (t - 3) (by omega)
      rw [show offK κ + 3 + (t - 3) = offK κ + t by omega] at this
      rw [this]; rfl
    · have := h.d (t - 11) (by omega)
      rw [show offK κ + 11 + (t - 11) = offK κ + t by omega] at this
      rw [this]; rfl
theorem rowI_one {w : World} {v : Value} {z : List Int} (h : RowI w v z) : v.oneCell' = true := by
  obtain ⟨ao, cp, rfl, _⟩ := RowI.slice h
  rfl

/-- A new state's cells. -/
def c0 (o : Nat) : Value := (spotZ[o % 19]?).getD undef
theorem flat_rep (z : List Value) (hz : z.length = 19) : ∀ (n o : Nat), o < n * 19 → ((List.replicate n z).flatten)[o]? = z[o % 19]? := by
  intro n
  induction n with
  | zero => intro o h; omega
  | succ n ih =>
    intro o h
    rw [List.replicate_succ, List.flatten_cons]
    rcases Nat.lt_or_ge o 19 with h1 | h1
    · rw [List.getElem?_append_left (by omega), Nat.mod_eq_of_lt h1]
    · rw [List.getElem?_append_right (by omega), hz, ih (o - 19) (by omega)]
      congr 1
      omega
theorem stZ_at {o : Nat} (h : o < 3648) : stZ[o]? = some (c0 o) := by
  have hz : spotZ.length = 19 := rfl
  have : stZ[o]? = spotZ[o % 19]? := by
    show ((List.replicate 192 spotZ).flatten).toArray[o]? = _
    rw [List.getElem?_toArray]
    exact flat_rep spotZ hz 192 o (by omega)
  rw [this]
  unfold c0
  rw [List.getElem?_eq_getElem (by rw [hz]; omega)]
  rfl
theorem c0_at (κ : K3) {t : Nat} (ht : t < 19) (v : Value) (hv : spotZ[t]? = some v) : c0 (offK κ + t) = v := by
  have : (offK κ + t) % 19 = t := by unfold offK; omega
  unfold c0
  rw [this, hv]
  rfl
theorem spot0K (κ : K3) : SpOK c0 κ none [] [] (.slice none 0 0) := by
  refine ⟨by have := c0_at κ (t := 0) (by omega) (.bool false) rfl; rw [Nat.add_zero] at this; exact this, c0_at κ (t := 1) (by omega) _ rfl, c0_at κ (t := 2) (by omega) _ rfl, fun f hf => ?_, fun f hf => ?_⟩
  · rw [Nat.add_assoc]
    refine c0_at κ (t := 3 + f) (by omega) (.bool false) ?_
    rcases (show f = 0 ∨ f = 1 ∨ f = 2 ∨ f = 3 ∨ f = 4 ∨ f = 5 ∨ f = 6 ∨ f = 7 by omega) with rfl | rfl | rfl | rfl | rfl | rfl | rfl | rfl <;> rfl
  · rw [Nat.add_assoc]
    refine c0_at κ (t := 11 + f) (by omega) (.int .i64 0) ?_
    rcases (show f = 0 ∨ f = 1 ∨ f = 2 ∨ f = 3 ∨ f = 4 ∨ f = 5 ∨ f = 6 ∨ f = 7 by omega) with rfl | rfl | rfl | rfl | rfl | rfl | rfl | rfl <;> rfl
theorem Bx.zero (w : World) : Bx (w.alloc (.cells stZ 109)) w.heap.size c0 := ⟨stZ, heap_alloc_new w _, stZ_size, fun _ ho => stZ_at ho⟩
theorem Rf.zero (w : World) : Rf (w.alloc (.cells stZ 109)) (fun k => w.heap.size ≤ k) w.heap.size ab0 :=
  ⟨Nat.le_refl _, ⟨c0, fun _ => .slice none 0 0, Bx.zero w, fun κ _ => spot0K κ, fun κ _ => ⟨World.ownsRow_nil _ _ _ _, fun j hj => by cases hj⟩⟩, fun _ _ => ⟨rfl, rfl, rfl⟩, abOK0, fun _ => Nat.zero_le _⟩

theorem run_buildSt (w : World) : (Instr.build 109 #[]).run Tryz.prog w = .ok (.agg stZ) w := by
  have h := zeroRun w
  simp [Instr.build, h, run_underlying Tryz.underlying109, Value.cells, Instr.fill]
theorem run_boxSt (w : World) : (Instr.box 109 (.agg stZ)).run Tryz.prog w = .ok (.pointer (some ⟨w.heap.size, 0, none⟩)) (w.alloc (.cells stZ 109)) := by
  simp [Instr.box, newVar, newRow, Value.cells]
theorem run_allocSt (w : World) : (Instr.alloc 109 true (.tuple #[])).run Tryz.prog w = .ok (.pointer (some ⟨w.heap.size, 0, none⟩)) (w.alloc (.cells stZ 109)) := by
  have h := zeroRun w
  simp [Instr.alloc, h, newVar, newRow, Value.cells]

theorem wpList_allocSt {ops : Array Oper} {rest : List Oper} {op : Oper} {a : Act} {w : World} {Q : Exit → Act → World → Prop} (hgd : op.guard = none) (ho : op.op = .alloc 109)
    (h : wpList Tryz.prog ops Q rest (a.put op.dst (.pointer (some ⟨w.heap.size, 0, none⟩))) (w.alloc (.cells stZ 109))) : wpList Tryz.prog ops Q (op :: rest) a w :=
  wpList_plain hgd fun _ hK => by
    have hr := run_allocSt w
    unfold Oper.wp execOp
    simp only [ho, Sem.run_bind, hr, Result.andThen_ok, Sem.run_pure]
    exact hK _ _ h

set_option maxRecDepth 100000 in
theorem refNew (w : World) : Calls Tryz.prog 23 #[] w fun e w' => e = .returned (.pointer (some ⟨w.heap.size, 0, none⟩)) ∧ w' = w.alloc (.cells stZ 109) := by
  have h1 := run_buildSt
  have h2 := run_boxSt
  go_enter Tryz.func23, Tryz.ntmps23
  go_wp2
  go_ret
  exact ⟨rfl, rfl⟩

/-- The cells of one state stored into another one's block. -/
theorem Bx.store {w : World} {y : Nat} {c0 c : Nat → Value} {cur : Array Value} (h : Bx w y c0) (hs : cur.size = 3648) (hc : ∀ o, o < 3648 → cur[o]? = some (c o)) :
    w.there y 0 cur.size ∧ Bx (w.setCells y 0 cur.toList) y c ∧ Tch (fun k => k = y) w (w.setCells y 0 cur.toList) := by
  have ht : w.there y 0 cur.size := fun j hj => ⟨by rw [Nat.zero_add, h.cell (by omega)]; rfl, h.free _⟩
  refine ⟨ht, ?_, (Tch.of (setCells_grown y cur.toList 0 w)).mono (fun k _ e => Option.some.inj e)⟩
  obtain ⟨cur0, h1, h2, h3⟩ := h
  obtain ⟨cur', h4, h5⟩ := setCells_block cur.toList 0 w cur0 h1
  refine ⟨cur', h4, by omega, fun o ho => ?_⟩
  have hr := World.rangeAt_setCells_same w y 0 cur.toList (by simpa using ht) o (c o) (by simpa using hc o ho)
  rw [Nat.zero_add] at hr
  simpa [World.cell?, h4] using hr
theorem bx_one {w : World} {O : Nat → Prop} {x : Nat} {a : Ab} {c : Nat → Value} {lv : K3 → Value} {cur : Array Value} (hS : ∀ κ, InK κ → SpOK c κ (a.V κ) (a.L κ) (a.D κ) (lv κ)) (hR : ∀ κ, InK κ → RowI w (lv κ) (a.L κ) ∧ ∀ j, (lv κ).ownBlock = some j → O j ∧ j ≠ x) (hs : cur.size = 3648) (hc : ∀ o, o < 3648 → cur[o]? = some (c o)) :
    cur.all (·.oneCell') = true := by
  refine Array.all_eq_true_iff_forall_mem.2 (fun v hv => ?_)
  obtain ⟨o, ho, rfl⟩ := Array.mem_iff_getElem.1 hv
  have h1 := hc o (by omega)
  rw [Array.getElem?_eq_getElem ho] at h1
  rw [Option.some.inj h1]
  obtain ⟨κ, t, hκ, ht, rfl⟩ := spot_of (show o < 3648 by omega)
  exact (hS κ hκ).one (rowI_one (hR κ hκ).1) ht
end Go.Proofs.YtgglokfpafbmeaaGreat
