/- A place among fields: the library's search. -/
import Derived.Test.YtkchfbigkecodaaGreatDct1
namespace Go.Proofs.YtkchfbigkecodaaGreat
open Go.RowKit Go.MapKept Go.ChangeMaps

/-- Is there a field of this number? -/
def hasT (z : List (Int × Int)) (t : Int) : Bool := match z[lowF z t]? with | some a => decide (ordZ a.1 t = 0) | none => false

set_option maxRecDepth 100000 in
set_option maxHeartbeats 2000000 in
theorem searchF (z : List (Int × Int)) (v : Value) (t : Int) (w : World) (h : RowF w v z) (hz : RiseF z) (hl : z.length ≤ 1000) :
    Calls Tryz.prog 70 #[v, .int .i64 t, .func (.func 71) #[] #[]] w fun e w' => e = .returned (.tuple #[.int .i64 (lowF z t : Nat), .bool (hasT z t)]) ∧ Below w.heap.size w w' := by
  obtain ⟨ao, cp, rfl⟩ : ∃ ao cp, v = .slice ao z.length cp := by
    rcases RowF.slice h with ⟨rfl, rfl⟩ | ⟨g, cp, rfl, _⟩
    · exact ⟨_, _, rfl⟩
    · exact ⟨_, _, rfl⟩
  have HR := hide h
  have HZ := hide hz
  have HS0 : Hid (Srch z t 0 z.length) := ⟨Nat.zero_le _, Nat.le_refl _, fun q a hq => by omega, fun q a hq ha => by
    obtain ⟨h1, _⟩ := List.getElem?_eq_some_iff.1 ha
    omega⟩
  clear h hz
  go_enter Tryz.func70, Tryz.ntmps70
  go_wp2_with fail
  go_loopw [9, 10, 11] (fun vi vj _ wr => ∃ i j : Nat, i ≤ j ∧ j ≤ z.length ∧ vi = .int .i64 i ∧ vj = .int .i64 j ∧ Hid (Srch z t i j) ∧ Hid (Below w.heap.size w wr)) (fun vi vj _ _ => (intOf vj).toNat - (intOf vi).toNat)
  case atStart => exact ⟨0, z.length, Nat.zero_le _, Nat.le_refl _, rfl, rfl, HS0, Below.refl _ _⟩
  case round =>
    obtain ⟨i, j, hij, hj, rfl, rfl, HS, HB⟩ := hrel
    by_cases hlt : i < j
    · obtain ⟨g, rfl, hcap⟩ : ∃ g, ao = some ⟨g, 0, none⟩ ∧ z.length ≤ cp := by
        rcases RowF.slice HR.out with ⟨e1, rfl⟩ | ⟨g, cp', e1, e2, _⟩
        · simp at hj; omega
        · simp at e1; exact ⟨g, e1.1, by omega⟩
      obtain ⟨m, hm⟩ : ∃ m, (i + j) / 2 = m := ⟨_, rfl⟩
      have hmj : m < j := by omega
      have him : i ≤ m := by omega
      obtain ⟨a, ha⟩ : ∃ a, z[m]? = some a := ⟨_, List.getElem?_eq_getElem (by omega)⟩
      obtain ⟨c0, c1⟩ := RowF.at (HR.out.later HB.out) ha
      have hsh : ((i : Int) + j) / 2 = (m : Int) := by omega
      have HA := hide ha
      clear HR ha
      go_wp2_with fail
      refine (placeCmp a.1 a.2 t wr).mono ?_
      rintro e w1 ⟨rfl, hb1⟩
      have HB1 := hide (HB.out.trans (hb1.mono HB.out.size))
      clear hb1 HB c0 c1
      by_cases hat : a.1 < t
      · have ho : ordZ a.1 t = -1 := if_pos hat
        have HS1 := hide (HS.out.up HZ.out HA.out hat hmj)
        rw [ho]
        clear ho HS
        go_wp2
        exact ⟨⟨m + 1, j, by omega, hj, by simp, rfl, HS1, HB1⟩, by simp [intOf]; omega⟩
      · have ho : ¬ ordZ a.1 t < 0 := by unfold ordZ; rw [if_neg hat]; split <;> omega
        have HS1 := hide (HS.out.down HZ.out HA.out hat him hmj)
        generalize ordZ a.1 t = oz at *
        clear HS
        go_wp2
        exact ⟨⟨i, m, him, by omega, rfl, rfl, HS1, HB1⟩, by simp [intOf]; omega⟩
    · have hlow : lowF z t = i := HS.out.low hlt
      by_cases hin : i < z.length
      · obtain ⟨g, rfl, hcap⟩ : ∃ g, ao = some ⟨g, 0, none⟩ ∧ z.length ≤ cp := by
          rcases RowF.slice HR.out with ⟨e1, rfl⟩ | ⟨g, cp', e1, e2, _⟩
          · simp at hin
          · simp at e1; exact ⟨g, e1.1, by omega⟩
        obtain ⟨a, ha⟩ : ∃ a, z[i]? = some a := ⟨_, List.getElem?_eq_getElem hin⟩
        obtain ⟨c0, c1⟩ := RowF.at (HR.out.later HB.out) ha
        have hh : hasT z t = decide (ordZ a.1 t = 0) := by unfold hasT; rw [hlow, ha]
        have HL := hide hlow
        have HH := hide hh
        clear HR HS HZ HS0 hlow hh ha
        go_wp2_with fail
        refine (placeCmp a.1 a.2 t wr).mono ?_
        rintro e w1 ⟨rfl, hb1⟩
        have HB1 := hide (HB.out.trans (hb1.mono HB.out.size))
        clear hb1 HB c0 c1
        generalize ordZ a.1 t = oz at *
        go_wp2
        go_ret2
        exact ⟨by rw [HL.out, HH.out]; rfl, HB1.out⟩
      · have hh : hasT z t = false := by unfold hasT; rw [hlow, List.getElem?_eq_none (by omega)]
        have HL := hide hlow
        have HH := hide hh
        clear HR HS HZ HS0 hlow hh
        go_wp2_with fail
        go_ret2
        exact ⟨by rw [HL.out, HH.out]; rfl, HB.out⟩

set_option maxRecDepth 100000 in
theorem placeF (z : List (Int × Int)) (v : Value) (t : Int) (w : World) (h : RowF w v z) (hz : RiseF z) (hl : z.length ≤ 1000) :
    Calls Tryz.prog 48 #[v, .int .i64 t] w fun e w' => e = .returned (.tuple #[.int .i64 (lowF z t : Nat), .bool (hasT z t)]) ∧ Below w.heap.size w w' := by
  have HS := hide (searchF z v t w h hz hl)
  clear h hz
  go_enter Tryz.func48, Tryz.ntmps48
  go_wp2_with fail
  refine HS.out.mono ?_
  rintro e w1 ⟨rfl, hb⟩
  have HB := hide hb
  clear hb HS
  go_wp2
  go_ret2
  exact ⟨rfl, HB.out⟩
end Go.Proofs.YtkchfbigkecodaaGreat
