/- What package dict asks of the library: fields compared, a place found among them. A place among fields: the library's search. Rows of fields: cells laid into them; append. Fields copied; a field put among others by the library's Insert. Fields cloned; package dict: New, Dict, DictKeys. A field put behind others; the first field of a key. -/
import Derived.Test.YtdogecaonlmalaaGreatLst1
import Derived.Test.YtdogecaonlmalaaGreatKeyS
import Derived.Laws.IdiomCopy
import Derived.Lib.Overlaps
import Derived.Lib.AppendZerosOnto
import Derived.Laws.NewBlocks
import Derived.Laws.Externs
import Derived.Deep.RegionHeld3
namespace Go.Proofs.YtdogecaonlmalaaGreat
open Go.RowKit Go.MapKept Go.ChangeMaps

/-- A field: its number, its value. -/
def fdC (p : Int × Int) : List Value := [.int .i64 p.1, .int .i64 p.2]
abbrev RowF := RowO 43 2 fdC

def ordZ (x y : Int) : Int := if x < y then -1 else if y < x then 1 else 0

set_option maxRecDepth 100000 in
theorem nan0 (x : Int) (w : World) : Calls Tryz.prog 75 #[.int .i64 x] w fun e w' => e = .returned (.bool false) ∧ w' = w := by
  go_enter Tryz.func75, Tryz.ntmps75
  go_wp2
  go_ret
  exact ⟨by simp, rfl⟩

set_option maxRecDepth 100000 in
theorem cmpZ (x y : Int) (w : World) : Calls Tryz.prog 46 #[.int .i64 x, .int .i64 y] w fun e w' => e = .returned (.int .i64 (ordZ x y)) ∧ w' = w := by
  by_cases h1 : x < y
  · rw [show ordZ x y = -1 from if_pos h1]
    go_enter Tryz.func46, Tryz.ntmps46
    go_wp2_with fail
    refine (nan0 x w).mono ?_
    rintro e w1 ⟨rfl, rfl⟩
    go_wp2_with fail
    refine (nan0 y _).mono ?_
    rintro e w1 ⟨rfl, rfl⟩
    go_wp2_with fail
    go_ret
    exact ⟨rfl, rfl⟩
  · by_cases h2 : y < x
    · rw [show ordZ x y = 1 by unfold ordZ; rw [if_neg h1, if_pos h2]]
      go_enter Tryz.func46, Tryz.ntmps46
      go_wp2_with fail
      refine (nan0 x w).mono ?_
      rintro e w1 ⟨rfl, rfl⟩
      go_wp2_with fail
      refine (nan0 y _).mono ?_
      rintro e w1 ⟨rfl, rfl⟩
      go_wp2_with fail
      go_ret
      exact ⟨rfl, rfl⟩
    · rw [show ordZ x y = 0 by unfold ordZ; rw [if_neg h1, if_neg h2]]
      go_enter Tryz.func46, Tryz.ntmps46
      go_wp2_with fail
      refine (nan0 x w).mono ?_
      rintro e w1 ⟨rfl, rfl⟩
      go_wp2_with fail
      refine (nan0 y _).mono ?_
      rintro e w1 ⟨rfl, rfl⟩
      go_wp2_with fail
      go_ret
      exact ⟨rfl, rfl⟩

set_option maxRecDepth 100000 in
theorem placeCmp (a b t : Int) (w : World) : Calls Tryz.prog 45 #[.agg #[.int .i64 a, .int .i64 b], .int .i64 t] w fun e w' => e = .returned (.int .i64 (ordZ a t)) ∧ Below w.heap.size w w' := by
  have HB := hide (below_alloc w (.cells #[.int .i64 a, .int .i64 b] 43) w.heap.size (Nat.le_refl _))
  go_enter Tryz.func45, Tryz.ntmps45
  go_wp2_with fail
  refine (cmpZ a t _).mono ?_
  rintro e w1 ⟨rfl, rfl⟩
  go_wp2
  go_ret
  exact ⟨rfl, HB.out⟩

/-- How many fields lie ahead of a number. -/
def lowF (z : List (Int × Int)) (t : Int) : Nat := z.countP fun p => decide (p.1 < t)
/-- Fields by rising numbers. -/
def RiseF (z : List (Int × Int)) : Prop := z.Pairwise fun a b => a.1 < b.1

theorem RiseF.lt {z : List (Int × Int)} (h : RiseF z) {i j : Nat} (hij : i < j) {a b : Int × Int} (ha : z[i]? = some a) (hb : z[j]? = some b) : a.1 < b.1 := by
  obtain ⟨h1, rfl⟩ := List.getElem?_eq_some_iff.1 ha
  obtain ⟨h2, rfl⟩ := List.getElem?_eq_some_iff.1 hb
  exact List.pairwise_iff_getElem.1 h i j h1 h2 hij

theorem low_of {z : List (Int × Int)} {t : Int} {i : Nat} (hi : i ≤ z.length) (h1 : ∀ j a, j < i → z[j]? = some a → a.1 < t) (h2 : ∀ j a, i ≤ j → z[j]? = some a → ¬ a.1 < t) : lowF z t = i := by
  unfold lowF
  induction z generalizing i with
  | nil => simp at hi; simp [hi]
  | cons x z ih =>
    cases i with
    | zero =>
      rw [List.countP_eq_zero]
      intro y hy
      obtain ⟨j, hj, rfl⟩ := List.getElem_of_mem hy
      have := h2 j _ (Nat.zero_le _) (List.getElem?_eq_getElem hj)
      simpa using this
    | succ i =>
      have hx : x.1 < t := h1 0 x (by omega) rfl
      rw [List.countP_cons_of_pos (by simpa using hx), ih (i := i) (by simpa using hi) (fun j a hj ha => h1 (j + 1) a (by omega) (by simpa using ha)) (fun j a hj ha => h2 (j + 1) a (by omega) (by simpa using ha))]

/-- What is asked of the search between its two ends. -/
def Srch (z : List (Int × Int)) (t : Int) (i j : Nat) : Prop := i ≤ j ∧ j ≤ z.length ∧ (∀ q a, q < i → z[q]? = some a → a.1 < t) ∧ (∀ q a, j ≤ q → z[q]? = some a → ¬ a.1 < t)
theorem Srch.low {z : List (Int × Int)} {t : Int} {i j : Nat} (h : Srch z t i j) (hij : ¬ i < j) : lowF z t = i := by
  obtain ⟨h1, h2, h3, h4⟩ := h
  exact low_of (by omega) h3 (fun q a hq => h4 q a (by omega))
theorem Srch.up {z : List (Int × Int)} {t : Int} {i j m : Nat} (h : Srch z t i j) (hz : RiseF z) {a : Int × Int} (hm : z[m]? = some a) (hlt : a.1 < t) (hj : m < j) : Srch z t (m + 1) j :=
  ⟨by omega, h.2.1, fun q b hq hb => by
    by_cases e : q = m
    · subst e; rw [hm] at hb; cases hb; exact hlt
    · have := hz.lt (show q < m by omega) hb hm
      omega, h.2.2.2⟩
theorem Srch.down {z : List (Int × Int)} {t : Int} {i j m : Nat} (h : Srch z t i j) (hz : RiseF z) {a : Int × Int} (hm : z[m]? = some a) (hlt : ¬ a.1 < t) (hi : i ≤ m) (hj : m < j) : Srch z t i m :=
  ⟨hi, by have := h.2.1; omega, h.2.2.1, fun q b hq hb => by
    by_cases e : q = m
    · subst e; rw [hm] at hb; cases hb; exact hlt
    · have := hz.lt (show m < q by omega) hm hb
      omega⟩

/-- A field read. -/
theorem RowF.at {w : World} {g cp : Nat} {z : List (Int × Int)} (h : RowF w (.slice (some ⟨g, 0, none⟩) z.length cp) z) {j : Nat} {a : Int × Int} (hj : z[j]? = some a) :
    w.cell? ⟨g, j * 2, none⟩ = some (.int .i64 a.1) ∧ w.cell? ⟨g, j * 2 + 1, none⟩ = some (.int .i64 a.2) := by
  have key : ∀ (z : List (Int × Int)) (j : Nat), z[j]? = some a → (z.flatMap fdC)[j * 2]? = some (.int .i64 a.1) ∧ (z.flatMap fdC)[j * 2 + 1]? = some (.int .i64 a.2) := by
    intro z
    induction z with
    | nil => intro j hj; simp at hj
    | cons x z ih =>
      intro j hj
      rw [List.flatMap_cons]
      cases j with
      | zero => simp at hj; subst hj; simp [fdC]
      | succ j =>
        have := ih j (by simpa using hj)
        rw [show (j + 1) * 2 = j * 2 + 2 by omega]
        constructor
        · rw [List.getElem?_append_right (by simp [fdC])]; simpa [fdC] using this.1
        · rw [List.getElem?_append_right (by simp [fdC])]; simpa [fdC] using this.2
  obtain ⟨k1, k2⟩ := key z j hj
  have c1 := World.ownsRow.cells h (g := g) rfl _ _ k1
  have c2 := World.ownsRow.cells h (g := g) rfl _ _ k2
  rw [add_none, Nat.zero_add] at c1 c2
  exact ⟨c1, c2⟩

/-- A row of fields lies so. -/
theorem RowF.slice {w : World} {v : Value} {z : List (Int × Int)} (h : RowF w v z) : (v = .slice none 0 0 ∧ z = []) ∨ ∃ g cp, v = .slice (some ⟨g, 0, none⟩) z.length cp ∧ z.length ≤ cp ∧ g < w.heap.size := by
  rcases h.2 with ⟨rfl, hn⟩ | ⟨g, cap, cur, rfl, _, hh, h1, _, _, _⟩
  · exact Or.inl ⟨rfl, List.length_eq_zero_iff.1 hn⟩
  · exact Or.inr ⟨g, cap, rfl, h1, lt_of_heap hh⟩
end Go.Proofs.YtdogecaonlmalaaGreat

namespace Go.Proofs.YtdogecaonlmalaaGreat
open Go.RowKit Go.MapKept Go.ChangeMaps

/-- Is there a field of this number? -/
def hasT (z : List (Int × Int)) (t : Int) : Bool := match z[lowF z t]? with | some a => decide (ordZ a.1 t = 0) | none => false

set_option maxRecDepth 100000 in
set_option maxHeartbeats 2000000 in
theorem searchF (z : List (Int × Int)) (v : Value) (t : Int) (w : World) (h : RowF w v z) (hz : RiseF z) (hl : z.length ≤ 1000) :
    Calls Tryz.prog 44 #[v, .int .i64 t, .func (.func 45) #[] #[]] w fun e w' => e = .returned (.tuple #[.int .i64 (lowF z t : Nat), .bool (hasT z t)]) ∧ Below w.heap.size w w' := by
  obtain ⟨ao, cp, rfl⟩ : ∃ ao cp, v = .slice ao z.length cp := by
    rcases RowF.slice h with ⟨rfl, rfl⟩ | ⟨g, cp, rfl, _⟩
    · exact ⟨_, _, rfl⟩
    · exact ⟨_, _, rfl⟩
  have HR := hide h
  have HZ := hide hz
  have HS0 : Hid (Srch z t 0 z.length) := ⟨Nat.zero_le _, Nat.le_refl _, fun q a hq => by omega, fun q a hq ha => by
    obtain ⟨h1, _⟩ := List.getElem?_eq_some_iff.1 ha
    omega⟩
  clear h hz
  go_enter Tryz.func44, Tryz.ntmps44
  go_wp2_with fail
  go_loopw [9, 10, 11] (fun vi vj _ wr => ∃ i j : Nat, i ≤ j ∧ j ≤ z.length ∧ vi = .int .i64 i ∧ vj = .int .i64 j ∧ Hid (Srch z t i j) ∧ Hid (Below w.heap.size w wr)) (fun vi vj _ _ => (intOf vj).toNat - (intOf vi).toNat)
  case atStart => exact ⟨0, z.length, Nat.zero_le _, Nat.le_refl _, rfl, rfl, HS0, Below.refl _ _⟩
  case round =>
    obtain ⟨i, j, hij, hj, rfl, rfl, HS, HB⟩ := hrel
    by_cases hlt : i < j
    · obtain ⟨g, rfl, hcap⟩ : ∃ g, ao = some ⟨g, 0, none⟩ ∧ z.length ≤ cp := by
        rcases RowF.slice HR.out with ⟨e1, rfl⟩ | ⟨g, cp', e1, e2, _⟩
        · simp at hj; omega
        · simp at e1; exact ⟨g, e1.1, by omega⟩
      obtain ⟨m, hm⟩ : ∃ m, (i + j) / 2 = m := ⟨_, rfl⟩
      have hmj : m < j := by omega
      have him : i ≤ m := by omega
      obtain ⟨a, ha⟩ : ∃ a, z[m]? = some a := ⟨_, List.getElem?_eq_getElem (by omega)⟩
      obtain ⟨c0, c1⟩ := RowF.at (HR.out.later HB.out) ha
      have hsh : ((i : Int) + j) / 2 = (m : Int) := by omega
      have HA := hide ha
      clear HR ha
      go_wp2_with fail
      refine (placeCmp a.1 a.2 t wr).mono ?_
      rintro e w1 ⟨rfl, hb1⟩
      have HB1 := hide (HB.out.trans (hb1.mono HB.out.size))
      clear hb1 HB c0 c1
      by_cases hat : a.1 < t
      · have ho : ordZ a.1 t = -1 := if_pos hat
        have HS1 := hide (HS.out.up HZ.out HA.out hat hmj)
        rw [ho]
        clear ho HS
        go_wp2
        exact ⟨⟨m + 1, j, by omega, hj, by simp, rfl, HS1, HB1⟩, by simp [intOf]; omega⟩
      · have ho : ¬ ordZ a.1 t < 0 := by unfold ordZ; rw [if_neg hat]; split <;> omega
        have HS1 := hide (HS.out.down HZ.out HA.out hat him hmj)
        generalize ordZ a.1 t = oz at *
        clear HS
        go_wp2
        exact ⟨⟨i, m, him, by omega, rfl, rfl, HS1, HB1⟩, by simp [intOf]; omega⟩
    · have hlow : lowF z t = i := HS.out.low hlt
      by_cases hin : i < z.length
      · obtain ⟨g, rfl, hcap⟩ : ∃ g, ao = some ⟨g, 0, none⟩ ∧ z.length ≤ cp := by
          rcases RowF.slice HR.out with ⟨e1, rfl⟩ | ⟨g, cp', e1, e2, _⟩
          · simp at hin
          · simp at e1; exact ⟨g, e1.1, by omega⟩
        obtain ⟨a, ha⟩ : ∃ a, z[i]? = some a := ⟨_, List.getElem?_eq_getElem hin⟩
        obtain ⟨c0, c1⟩ := RowF.at (HR.out.later HB.out) ha
        have hh : hasT z t = decide (ordZ a.1 t = 0) := by unfold hasT; rw [hlow, ha]
        have HL := hide hlow
        have HH := hide hh
        clear HR HS HZ HS0 hlow hh ha
        go_wp2_with fail
        refine (placeCmp a.1 a.2 t wr).mono ?_
        rintro e w1 ⟨rfl, hb1⟩
        have HB1 := hide (HB.out.trans (hb1.mono HB.out.size))
        clear hb1 HB c0 c1
        generalize ordZ a.1 t = oz at *
        go_wp2
        go_ret2
        exact ⟨by rw [HL.out, HH.out]; rfl, HB1.out⟩
      · have hh : hasT z t = false := by unfold hasT; rw [hlow, List.getElem?_eq_none (by omega)]
        have HL := hide hlow
        have HH := hide hh
        clear HR HS HZ HS0 hlow hh
        go_wp2_with fail
        go_ret2
        exact ⟨by rw [HL.out, HH.out]; rfl, HB.out⟩

set_option maxRecDepth 100000 in
theorem placeF (z : List (Int × Int)) (v : Value) (t : Int) (w : World) (h : RowF w v z) (hz : RiseF z) (hl : z.length ≤ 1000) :
    Calls Tryz.prog 26 #[v, .int .i64 t] w fun e w' => e = .returned (.tuple #[.int .i64 (lowF z t : Nat), .bool (hasT z t)]) ∧ Below w.heap.size w w' := by
  have HS := hide (searchF z v t w h hz hl)
  clear h hz
  go_enter Tryz.func26, Tryz.ntmps26
  go_wp2_with fail
  refine HS.out.mono ?_
  rintro e w1 ⟨rfl, hb⟩
  have HB := hide hb
  clear hb HS
  go_wp2
  go_ret2
  exact ⟨rfl, HB.out⟩
end Go.Proofs.YtdogecaonlmalaaGreat

namespace Go.Proofs.YtdogecaonlmalaaGreat
open Go.RowKit Go.MapKept Go.ChangeMaps

theorem setCell_block {w : World} {b o : Nat} {v : Value} {cur : Array Value} {e : TypeId} {fr : Nat × Nat} (h : w.heap[b]? = some (.cells cur e fr)) : ∃ cur', (w.setCell ⟨b, o, none⟩ v).heap[b]? = some (.cells cur' e fr) ∧ cur'.size = cur.size := by
  obtain ⟨hlt, he⟩ := Array.getElem?_eq_some_iff.1 h
  refine ⟨cur.setIfInBounds o v, ?_, by simp⟩
  simp [World.setCell, Array.getElem_modify, hlt, he]
theorem setCells_block {b : Nat} {e : TypeId} {fr : Nat × Nat} (vs : List Value) : ∀ (o : Nat) (w : World) (cur : Array Value), w.heap[b]? = some (.cells cur e fr) → ∃ cur', (w.setCells b o vs).heap[b]? = some (.cells cur' e fr) ∧ cur'.size = cur.size := by
  induction vs with
  | nil => intro o w cur h; exact ⟨cur, h, rfl⟩
  | cons v vs ih =>
    intro o w cur h
    obtain ⟨c1, h1, h2⟩ := setCell_block (o := o) (v := v) h
    obtain ⟨c2, h3, h4⟩ := ih (o + 1) (w.setCell ⟨b, o, none⟩ v) c1 h1
    exact ⟨c2, h3, h4.trans h2⟩
theorem setCells_grown (b : Nat) (vs : List Value) : ∀ (o : Nat) (w : World), w.grownBy (w.setCells b o vs) (some b) := by
  induction vs with
  | nil => intro o w; exact ⟨rfl, rfl, rfl, Nat.le_refl _, fun _ _ _ => rfl⟩
  | cons v vs ih =>
    intro o w
    have h1 := grown_setCell w b o v
    have h2 := ih (o + 1) (w.setCell ⟨b, o, none⟩ v)
    exact ⟨h2.os.trans h1.os, h2.tape.trans h1.tape, h2.output.trans h1.output, Nat.le_trans h1.size h2.size, fun k hk hn => (h2.block k (Nat.lt_of_lt_of_le hk h1.size) hn).trans (h1.block k hk hn)⟩

/-- A row, told by its cells. -/
theorem row_of_cells {w : World} {B g cap n sz : Nat} {e : TypeId} {cur : Array Value} {xs : List Value} (hB : B ≤ g) (hh : w.heap[g]? = some (.cells cur e (0, 0))) (hs : cur.size = cap * sz) (hn : n ≤ cap) (hm : cap ≤ maxLen) (hl : xs.length = n * sz)
    (hc : ∀ j u, xs[j]? = some u → w.cell? ⟨g, j, none⟩ = some u) : w.ownsRow B e sz (.slice (some ⟨g, 0, none⟩) n cap) n xs := by
  refine ⟨hl, Or.inr ⟨g, cap, cur, rfl, hB, hh, hn, hm, hs, ?_⟩⟩
  have hns : n * sz ≤ cap * sz := Nat.mul_le_mul_right _ hn
  apply List.ext_getElem?
  intro j
  by_cases hj : j < n * sz
  · rw [List.getElem?_take_of_lt hj, Array.getElem?_toList]
    have hx : xs[j]? = some xs[j] := List.getElem?_eq_getElem (by omega)
    have := hc j _ hx
    rw [hx]
    simpa [World.cell?, hh] using this
  · rw [List.getElem?_take_eq_none (by omega), List.getElem?_eq_none (by omega)]

theorem infoF : (Tryz.prog.info? 43).map (fun i => (i.zero, i.size, i.bytes)) = some (some (.agg #[.int .i64 0, .int .i64 0]), 2, 16) := by kernel_rfl

theorem fdC_one (z : List (Int × Int)) : ∀ u ∈ z.flatMap fdC, u.oneCell' = true := by
  intro u hu
  obtain ⟨p, _, hp⟩ := List.mem_flatMap.1 hu
  simp [fdC] at hp
  rcases hp with rfl | rfl <;> rfl
theorem flatF_len (z : List (Int × Int)) : (z.flatMap fdC).length = z.length * 2 := by
  induction z with
  | nil => rfl
  | cons p z ih => rw [List.flatMap_cons, List.length_append, ih, List.length_cons]; simp [fdC]; omega

/-- append(own, fields...). -/
theorem run_appF (B : Nat) (w : World) (v : Value) (l : List (Int × Int)) (hown : w.ownsRow B 43 2 v l.length (l.flatMap fdC)) (ad : Addr) (m c : Nat) (news : List (Int × Int)) (hm : news.length = m)
    (hn : ∀ j u, (news.flatMap fdC)[j]? = some u → w.cell? (ad.add j) = some u) (hsz : l.length + m ≤ 1000000) (hB : B ≤ w.heap.size) :
    ∃ v' w', (∀ ty, (Builtin.append_ #[39, 39] ty #[v, .slice (some ad) m c]).run Tryz.prog w = .ok v' w') ∧ w'.ownsRow B 43 2 v' (l ++ news).length ((l ++ news).flatMap fdC) ∧ w.grownBy w' v.ownBlock ∧ (v'.ownBlock = v.ownBlock ∨ v'.ownBlock = some w.heap.size) := by
  obtain ⟨i0, hi, hz0, hz1, hz2⟩ := info_parts infoF
  have key := fun ty => run_append_own_at (P := Tryz.prog) w B 39 ty 43 i0 _ 2 16 Tryz.underlying39 hi hz0 hz1 hz2 rfl (by decide) v l.length (l.flatMap fdC) hown ad m c (news.flatMap fdC) (by rw [flatF_len, hm]) hn (fdC_one news) (by simp only [maxLen]; omega) (by omega) hB
  obtain ⟨v', w', hrun, h2, h3, _, h5⟩ := key 0
  refine ⟨v', w', fun ty => hrun, ?_, h3, h5⟩
  rw [List.flatMap_append, List.length_append, hm]
  exact h2

/-- A literal of one field. -/
def fdO (a : Int × Int) : Obj := .cells #[.int .i64 a.1, .int .i64 a.2] 43
theorem fdO_cells {w : World} {q : Nat} {a : Int × Int} (h : w.heap[q]? = some (fdO a)) : ∀ j u, ([a].flatMap fdC)[j]? = some u → w.cell? ((⟨q, 0, none⟩ : Addr).add j) = some u := by
  intro j u hj
  rw [add_none, Nat.zero_add]
  simp only [List.flatMap_cons, List.flatMap_nil, List.append_nil, fdC] at hj
  match j, hj with
  | 0, hj => simp at hj; subst hj; simp [World.cell?, h, fdO]
  | 1, hj => simp at hj; subst hj; simp [World.cell?, h, fdO]
  | j + 2, hj => simp at hj
end Go.Proofs.YtdogecaonlmalaaGreat

namespace Go.Proofs.YtdogecaonlmalaaGreat
open Go.RowKit Go.MapKept Go.ChangeMaps

/-- copy of fields: all is read ahead of the first write. -/
theorem run_copyF (w : World) (ty : TypeId) (b o dLen dCap : Nat) (a : Addr) (sLen sCap : Nat) (cs : List Value) (hn : cs.length = Nat.min sLen dLen * 2)
    (hsrc : ∀ j v, cs[j]? = some v → w.cell? (a.add j) = some v) (hc : ∀ j, j < cs.length → (w.cell? ⟨b, o + j, none⟩).isSome = true) (hf : ∀ j, j < cs.length → w.frozen? ⟨b, o + j, none⟩ = false) (h1 : ∀ v ∈ cs, v.oneCell' = true) :
    (Builtin.copy_ #[39, 39] ty #[.slice (some ⟨b, o, none⟩) dLen dCap, .slice (some a) sLen sCap]).run Tryz.prog w = .ok (goInt (Nat.min sLen dLen)) (w.setCells b o cs) := by
  have hl := run_loadCells_list (P := Tryz.prog) w a cs hsrc
  have hst := run_storeCells_cells (P := Tryz.prog) b o cs 0 w (by simpa using hc) (by simpa using hf) h1
  obtain ⟨i, hi, _, hz1, _⟩ := info_parts infoF
  have hz1' : i.size = 2 := hz1
  simp [Builtin.copy_, run_underlying Tryz.underlying39, Builtin.lenOf, Builtin.firstCells, sizeOf, typeInfo, hi, hz1', ← hn, hl, hst]
end Go.Proofs.YtdogecaonlmalaaGreat

namespace Go.Proofs.YtdogecaonlmalaaGreat
open Go.RowKit Go.MapKept Go.ChangeMaps

abbrev Di := Rm 69 43 2 fdC
abbrev DiS := RmS 69 43 2 fdC
theorem zeroFs (w : World) : (zeroValue 39).run Tryz.prog w = .ok (.slice none 0 0) w := by
  have hz : Tryz.t39.zero = some (.slice none 0 0) := by kernel_rfl
  simp [zeroValue, hz]
theorem dicts_ne : (69 : TypeId) ≠ 43 := by decide

set_option maxRecDepth 100000 in
theorem dictNew (w : World) : Calls Tryz.prog 5 #[] w fun e w' => e = .returned (.pointer (some ⟨w.heap.size, 0, none⟩)) ∧ w' = w.alloc (rmObj 69 none) := by
  go_enter Tryz.func5, Tryz.ntmps5
  go_wp2
  go_ret
  exact ⟨rfl, rfl⟩

/-- The look at a key: its row. -/
theorem Di.look {w : World} {O : Nat → Prop} {g N : Nat} {f : K3 → List (Int × Int)} {mo : Option Nat} {l : List (Ent K3)} {c : Nat} (h : Di w O g f N mo l c) (k : K3) :
    (Instr.lookup 67 (.map mo) (k3E k) false).run Tryz.prog w = .ok ((atE l k).getD (.slice none 0 0)) w := by
  cases mo with
  | none =>
    have := look_nilE k3Keyd undD (zeroFs w) k false
    rw [h.nomap rfl, atE_nil]
    exact this
  | some r => exact (h.made r rfl).2.2.look k3Keyd undD (zeroFs w) k false

/-- Fields that may be read. -/
structure RdF (w : World) (ao : Option Addr) (m c : Nat) (z : List (Int × Int)) : Prop where
  len : z.length = m
  nil : ao = none → m = 0 ∧ c = 0
  cells : ∀ a, ao = some a → ∀ j u, (z.flatMap fdC)[j]? = some u → w.cell? (a.add j) = some u
  le : m ≤ c
theorem RdF.later {w w' : World} {ao : Option Addr} {m c : Nat} {z : List (Int × Int)} (h : RdF w ao m c z) (hb : Below w.heap.size w w') : RdF w' ao m c z := by
  refine ⟨h.len, h.nil, fun a ha j u hj => ?_, h.le⟩
  have hc := h.cells a ha j u hj
  rw [World.cell?_of_block (hb.block _ (World.block_lt_of_cell? w _ hc))]
  exact hc
theorem RowF.rd {w : World} {v : Value} {z : List (Int × Int)} (h : RowF w v z) : ∃ ao cp, v = .slice ao z.length cp ∧ RdF w ao z.length cp z := by
  rcases h.2 with ⟨rfl, hn⟩ | ⟨g, cap, cur, rfl, _, _, h1, _, _, _⟩
  · have e : z = [] := List.length_eq_zero_iff.1 hn
    subst e
    exact ⟨none, 0, rfl, rfl, fun _ => ⟨rfl, rfl⟩, fun a ha => (by cases ha), Nat.le_refl _⟩
  · refine ⟨_, cap, rfl, rfl, fun e => (by cases e), fun a ha j u hj => ?_, h1⟩
    cases ha
    exact World.ownsRow.cells h (g := g) rfl j u hj

/-- A row of fields made since B. -/
def OwnF (w : World) (B : Nat) (v : Value) (z : List (Int × Int)) : Prop := w.ownsRow B 43 2 v z.length (z.flatMap fdC)
theorem OwnF.row {w : World} {B : Nat} {v : Value} {z : List (Int × Int)} (h : OwnF w B v z) : RowF w v z := row_mono h (Nat.zero_le _)
theorem OwnF.lt {w : World} {B : Nat} {v : Value} {z : List (Int × Int)} (h : OwnF w B v z) : ∀ k, v.ownBlock = some k → B ≤ k ∧ k < w.heap.size := World.ownsRow.lt h

set_option maxRecDepth 100000 in
/-- slices.Clone of fields. -/
theorem cloneF (ao : Option Addr) (m cp : Nat) (z : List (Int × Int)) (w : World) (hr : RdF w ao m cp z) (hm : m ≤ 100000) :
    Calls Tryz.prog 29 #[.slice ao m cp] w fun e w' => ∃ v, e = .returned v ∧ OwnF w' w.heap.size v z ∧ Below w.heap.size w w' := by
  have q29 : ∀ (w : World) (a : Option Addr) (n c n' c' : Nat), (binOp .eql 39 (.slice a n c) (.slice none n' c')).run Tryz.prog w = .ok (.bool a.isNone) w := fun w a n c n' c' => Lib.run_eql_slice_nil w _ _ a n c n' c' Tryz.underlying39
  cases ao with
  | none =>
    obtain ⟨rfl, rfl⟩ := hr.nil rfl
    obtain rfl : z = [] := List.length_eq_zero_iff.1 hr.len
    clear hr
    go_enter Tryz.func29, Tryz.ntmps29
    go_wp2
    go_ret
    exact ⟨_, rfl, World.ownsRow_nil _ _ _ _, Below.refl _ _⟩
  | some ad =>
    have hb := below_alloc w (.cells #[] 43) w.heap.size (Nat.le_refl _)
    have hl := World.ownsRow_lit (base := w.heap.size) (e := 43) (size := 2) w #[] 0 (Nat.le_refl _) (by decide) rfl
    obtain ⟨v', W', hrun, h2, h3, _⟩ := run_appF w.heap.size (w.alloc (.cells #[] 43)) _ [] hl ad m cp z hr.len ((hr.later hb).cells ad rfl) (by simp; omega) (by simp)
    simp only [List.nil_append] at h2
    have H2 : Hid (OwnF W' w.heap.size v' z) := h2
    have H3 := hide (hb.grown h3 hb.size (fun k hk => (World.ownsRow.lt hl k hk).1))
    have HR := hide hrun
    clear h2 h3 hl hb hr hrun
    go_enter Tryz.func29, Tryz.ntmps29
    go_wp2_with (at_builtin; refine wpList_ran rfl (.tmp 5) (.tmp 6) _ _ rfl _ _ v' (by rfl) (by rfl) HR.out ?_)
    go_ret
    exact ⟨_, rfl, H2.out, H3.out⟩

set_option maxRecDepth 100000 in
/-- Dict. -/
theorem dictDict (O : Nat → Prop) (g N : Nat) (f : K3 → List (Int × Int)) (k : K3) (w : World) (h : DiS w O g f N) (hf : (f k).length ≤ 100) :
    Calls Tryz.prog 9 #[.pointer (some ⟨g, 0, none⟩), k3E k] w fun e w' => ∃ v, e = .returned v ∧ OwnF w' w.heap.size v (f k) ∧ Below w.heap.size w w' := by
  have hb := below_alloc w (k3O k) w.heap.size (Nat.le_refl _)
  obtain ⟨mo, l, c, h⟩ := h
  have h1 := h.later hb
  obtain ⟨q0, qf⟩ := rm_cell h1.obj
  have hbx := heap_alloc_new w (k3O k)
  obtain ⟨x0, x1, x2⟩ := cells_three hbx
  have hdr := (Below.refl (w.alloc (k3O k)).heap.size (w.alloc (k3O k))).drew
  have lk : (Instr.lookup 67 (.map mo) (k3E k) false).run Tryz.prog (w.alloc (k3O k)).drew = .ok ((atE l k).getD (.slice none 0 0)) (w.alloc (k3O k)).drew := Di.look (h1.later hdr) k
  have hrow := h1.rowAt k
  generalize (atE l k).getD (.slice none 0 0) = v at lk hrow
  obtain ⟨ao', cp', rfl, hrd⟩ := RowF.rd hrow
  have hC : Calls Tryz.prog 29 #[.slice ao' (f k).length cp'] (w.alloc (k3O k)).drew fun e w' => ∃ v, e = .returned v ∧ OwnF w' w.heap.size v (f k) ∧ Below w.heap.size w w' := by
    have hD := hdr
    refine (cloneF ao' _ cp' (f k) _ (hrd.later hD) (by omega)).mono ?_
    rintro e w' ⟨v, r1, r2, r3⟩
    have hs := (hb.trans (hD.mono hb.size)).size
    exact ⟨v, r1, row_mono r2 hs, (hb.trans (hD.mono hb.size)).trans (r3.mono hs)⟩
  have HC := hide hC
  clear h h1 hbx hb hrow hC hrd hdr
  unfold k3O k3E at *
  go_enter Tryz.func9, Tryz.ntmps9
  go_wp2
  go_region_with (go_at_call 29; (refine HC.out.mono ?_; rintro e W1 ⟨v, rfl, k1, k2⟩; have HK := hide (And.intro k1 k2); clear k1 k2))
  all_goals
    clear lk HC x0 x1 x2 q0 qf
    go_wp2
    go_ret
    exact ⟨_, rfl, HK.out.1, HK.out.2⟩

set_option maxRecDepth 100000 in
/-- DictKeys. -/
theorem dictKeys (O : Nat → Prop) (g N : Nat) (f : K3 → List (Int × Int)) (w : World) (h : DiS w O g f N) (hN : N ≤ 1000) :
    Calls Tryz.prog 8 #[.pointer (some ⟨g, 0, none⟩)] w fun e w' => ∃ v ks, e = .returned v ∧ (∀ k, k ∈ ks ↔ f k ≠ []) ∧ RiseK ks ∧ OwnK w' w.heap.size v ks ∧ Below w.heap.size w w' := by
  obtain ⟨mo, l, c, h⟩ := h
  obtain ⟨q0, _⟩ := rm_cell h.obj
  have HAT := hide h.mem
  cases mo with
  | some r =>
    have HS := hide (sortedD r l c w (h.made r rfl).2.2 (by have := h.len; omega))
    clear h
    go_enter Tryz.func8, Tryz.ntmps8
    go_wp2_with fail
    refine HS.out.mono ?_
    rintro e w1 ⟨v, ks, rfl, k1, k2, k3, k4⟩
    have H1 : Hid (∀ k, k ∈ ks ↔ f k ≠ []) := fun k => k1.mem_iff.trans (HAT.out k)
    have H2 := hide k2
    have H3 := hide k3
    have H4 := hide k4
    clear k1 k2 k3 k4 HS
    go_wp2
    go_ret
    exact ⟨v, ks, rfl, H1.out, H2.out, H3.out, H4.out⟩
  | none =>
    have hl := h.nomap rfl
    subst hl
    clear h
    go_enter Tryz.func8, Tryz.ntmps8
    go_wp2_with fail
    refine (sortedNilD w).mono ?_
    rintro e w1 ⟨v, rfl, k3, k4⟩
    have H3 := hide k3
    have H4 := hide k4
    clear k3 k4
    go_wp2
    go_ret
    exact ⟨v, [], rfl, fun k => by have := HAT.out k; simpa using this, List.Pairwise.nil, H3.out, H4.out⟩
end Go.Proofs.YtdogecaonlmalaaGreat

namespace Go.Proofs.YtdogecaonlmalaaGreat
open Go.RowKit Go.MapKept Go.ChangeMaps

set_option maxRecDepth 100000 in
/-- slices.Insert of one field at the end of no fields. -/
theorem insert0 (a : Int × Int) (q : Nat) (w : World) (hq : w.heap[q]? = some (fdO a)) :
    Calls Tryz.prog 43 #[.slice none 0 0, .int .i64 0, .slice (some ⟨q, 0, none⟩) 1 1] w fun e w' => ∃ v, e = .returned v ∧ OwnF w' w.heap.size v [a] ∧ Below w.heap.size w w' := by
  obtain ⟨v', W', hrun, h2, h3, _⟩ := run_appF w.heap.size w (.slice none 0 0) [] (World.ownsRow_nil _ _ _ _) ⟨q, 0, none⟩ 1 1 [a] rfl (fdO_cells hq) (by simp) (Nat.le_refl _)
  simp only [List.nil_append] at h2
  have H2 : Hid (OwnF W' w.heap.size v' [a]) := h2
  have H3 := hide ((Below.refl w.heap.size w).grown h3 (Nat.le_refl _) (fun k hk => by cases hk))
  have HR := hide hrun
  clear h2 h3 hrun hq
  go_enter Tryz.func43, Tryz.ntmps43
  go_wp2_with (at_builtin; refine wpList_ran rfl (.tmp 23) (.tmp 24) _ _ rfl _ _ v' (by rfl) (by rfl) HR.out ?_)
  go_ret
  exact ⟨_, rfl, H2.out, H3.out⟩

set_option maxRecDepth 100000 in
/-- with, of no fields. -/
theorem with0 (f n : Int) (w : World) :
    Calls Tryz.prog 25 #[.slice none 0 0, .int .i64 f, .int .i64 n] w fun e w' => ∃ v, e = .returned v ∧ OwnF w' w.heap.size v [(f, n)] ∧ Below w.heap.size w w' := by
  have HP := hide (placeF [] (.slice none 0 0) f w (RowO.nil _ _ _ _) List.Pairwise.nil (by simp))
  have e1 : lowF [] f = 0 := rfl
  have e2 : hasT [] f = false := rfl
  rw [e1, e2] at HP
  clear e1 e2
  go_enter Tryz.func25, Tryz.ntmps25
  go_wp2_with fail
  refine HP.out.mono ?_
  rintro e w1 ⟨rfl, hb⟩
  have hb2 := below_alloc w1 (fdO (f, n)) w1.heap.size (Nat.le_refl _)
  have hbb := hb.trans (hb2.mono hb.size)
  have HI : Hid (Calls Tryz.prog 43 #[.slice none 0 0, .int .i64 0, .slice (some ⟨w1.heap.size, 0, none⟩) 1 1] (w1.alloc (fdO (f, n))) fun e w' => ∃ v, e = .returned v ∧ OwnF w' w.heap.size v [(f, n)] ∧ Below w.heap.size w w') := by
    refine (insert0 (f, n) w1.heap.size _ (heap_alloc_new w1 _)).mono ?_
    rintro e w' ⟨v, r1, r2, r3⟩
    exact ⟨v, r1, row_mono r2 hbb.size, hbb.trans (r3.mono hbb.size)⟩
  unfold fdO at HI
  clear hb hb2 hbb HP
  go_wp2_with fail
  refine HI.out.mono ?_
  rintro e w2 ⟨v, rfl, k1, k2⟩
  have K1 := hide k1
  have K2 := hide k2
  clear k1 k2 HI
  go_wp2
  go_ret
  exact ⟨_, rfl, K1.out, K2.out⟩

theorem same_cell {a b : World} {p : Addr} {v : Value} (h : Below a.heap.size a b) (hc : a.cell? p = some v) : b.cell? p = some v := by
  rw [World.cell?_of_block (h.block _ (World.block_lt_of_cell? a _ hc))]; exact hc
theorem same_cell2 {a b : World} {r : Nat} {p : Addr} {v : Value} (h : a.grownBy b (Option.some r)) (hc : a.cell? p = Option.some v) (hr : p.block ≠ r) : b.cell? p = Option.some v := by
  rw [World.cell?_of_block (h.block _ (World.block_lt_of_cell? a _ hc) (fun e => hr (Option.some.inj e)))]; exact hc
theorem OwnF.some {w : World} {B : Nat} {v : Value} {z : List (Int × Int)} (h : OwnF w B v z) (hz : z ≠ []) : ∃ j, v.ownBlock = some j ∧ B ≤ j := by
  rcases h.2 with ⟨rfl, hn⟩ | ⟨g, cap, cur, rfl, hg, _⟩
  · exact absurd (List.length_eq_zero_iff.1 hn) hz
  · exact ⟨g, rfl, hg⟩

/-- The call of with and the update behind it, at a key that has no fields. -/
theorem Di.put0 {w : World} {O : Nat → Prop} {g N r : Nat} {fd : K3 → List (Int × Int)} {l : List (Ent K3)} {c : Nat} (h : Di w O g fd N (some r) l c) (hO : ∀ k, w.heap.size ≤ k → O k) (k : K3) (hk : fd k = []) (f n : Int) :
    Calls Tryz.prog 25 #[.slice none 0 0, .int .i64 f, .int .i64 n] w fun e w' => ∃ v w2, e = .returned v ∧ (Instr.mapUpdate 67 (.map (some r)) (k3E k) v).run Tryz.prog w' = .ok () w2 ∧ DiS w2 O g (updR fd k [(f, n)]) (N + 1) ∧ Tch O w w2 ∧ Below w.heap.size w w' ∧ w'.grownBy w2 (some r) := by
  have ha : (atE l k).getD (.slice none 0 0) = .slice none 0 0 := by
    rcases h.atK k with ⟨_, h2, _⟩ | ⟨x, _, _, _, h3, _⟩
    · rw [h2]; rfl
    · exact absurd hk h3
  refine (with0 f n w).mono ?_
  rintro e w' ⟨v, r1, r2, r3⟩
  obtain ⟨j, hj, hge⟩ := r2.some (by simp)
  obtain ⟨w2, q1, q2, q3⟩ := h.put undD dicts_ne k [(f, n)] (by simp) (w1 := w') (by rw [ha]; exact below_grown r3 _) v r2.row (Or.inr ⟨j, hj, hge, hO j hge⟩)
  obtain ⟨_, _, hm⟩ := h.made r rfl
  have hm' : Mp k3E w' r l c := hm.at (r3.block r hm.lt)
  have hg : w'.grownBy w2 (Option.some r) := by
    by_cases hs : k ∈ l.map Ent.k
    · obtain ⟨w3, p1, _, p3⟩ := hm'.set k3Keyd undD k v hs
      have e := q1.symm.trans p1
      simp at e
      rw [e]; exact p3
    · obtain ⟨w3, p1, _, p3⟩ := hm'.put k3Keyd undD k v hs
      have e := q1.symm.trans p1
      simp at e
      rw [e]; exact p3
  exact ⟨v, w2, r1, q1, q2, q3, r3, hg⟩

set_option maxRecDepth 100000 in
set_option maxHeartbeats 1600000 in
/-- PutField at a key that has no fields. -/
theorem dictPut0 (O : Nat → Prop) (g N : Nat) (fd : K3 → List (Int × Int)) (k : K3) (f n : Int) (w : World) (h : DiS w O g fd N) (hO : ∀ k, w.heap.size ≤ k → O k) (hk : fd k = []) (h0 : 0 ≤ f) (h8 : f < 8) :
    Calls Tryz.prog 6 #[.pointer (some ⟨g, 0, none⟩), k3E k, .int .i64 f, .int .i64 n] w fun e w' => e = .returned (.int .i64 0) ∧ DiS w' O g (updR fd k [(f, n)]) (N + 1) ∧ Tch O w w' := by
  have hmm := @run_makeMap Tryz.prog
  have hnm := fun (W : World) (r : Option Nat) => run_eql_map_nil (P := Tryz.prog) W 67 28 39 r undD
  have c0 : ¬ f < 0 := by omega
  have c8 : ¬ 8 ≤ f := by omega
  obtain ⟨mo, l, c, h⟩ := h
  have hb := below_alloc w (k3O k) w.heap.size (Nat.le_refl _)
  have h1 := h.later hb
  obtain ⟨q0, qf⟩ := rm_cell h1.obj
  have hbx := heap_alloc_new w (k3O k)
  have hglt := lt_of_heap h.obj
  have ha : (atE l k).getD (.slice none 0 0) = .slice none 0 0 := by
    rcases h.atK k with ⟨_, h2, _⟩ | ⟨x, _, _, _, h3, _⟩
    · rw [h2]; rfl
    · exact absurd hk h3
  cases mo with
  | some r =>
    obtain ⟨x0, x1, x2⟩ := cells_three hbx
    have hD := (Below.refl (w.alloc (k3O k)).heap.size (w.alloc (k3O k))).drew
    have lk : (Instr.lookup 67 (.map (some r)) (k3E k) false).run Tryz.prog (w.alloc (k3O k)).drew = .ok (.slice none 0 0) (w.alloc (k3O k)).drew := by
      rw [Di.look (h1.later hD) k, ha]
    have HC : Hid (Calls Tryz.prog 25 #[.slice none 0 0, .int .i64 f, .int .i64 n] (w.alloc (k3O k)).drew fun e w' => ∃ v w2, e = .returned v ∧ (Instr.mapUpdate 67 (.map (some r)) (k3E k) v).run Tryz.prog w' = .ok () w2 ∧ DiS w2 O g (updR fd k [(f, n)]) (N + 1) ∧ Tch O w w2 ∧ (w'.cell? ⟨g, 0, none⟩ = some (.map (some r)) ∧ w'.cell? ⟨w.heap.size, 0, none⟩ = some (.int .i64 k.g) ∧ w'.cell? ⟨w.heap.size, 1, none⟩ = some (.int .i64 k.n) ∧ w'.cell? ⟨w.heap.size, 2, none⟩ = some (.int .i64 k.i)) ∧ w2.cell? ⟨g, 0, none⟩ = some (.map (some r)) ∧ w2.cell? ⟨w.heap.size, 0, none⟩ = some (.int .i64 k.g) ∧ w2.cell? ⟨w.heap.size, 1, none⟩ = some (.int .i64 k.n) ∧ w2.cell? ⟨w.heap.size, 2, none⟩ = some (.int .i64 k.i)) := by
      refine (Di.put0 (h1.later hD) (fun j hj => hO j (Nat.le_trans (hb.trans (hD.mono hb.size)).size hj)) k hk f n).mono ?_
      rintro e w' ⟨v, w2, r1, r2, r3, r4, r5, r6⟩
      have c0' := same_cell (hD.trans (r5.mono hD.size)) q0
      have c1' := same_cell (hD.trans (r5.mono hD.size)) x0
      have c2' := same_cell (hD.trans (r5.mono hD.size)) x1
      have c3' := same_cell (hD.trans (r5.mono hD.size)) x2
      exact ⟨v, w2, r1, r2, r3, ((Below.tch hb).trans (Below.tch hD)).trans r4, ⟨c0', c1', c2', c3'⟩, same_cell2 r6 c0' (fun e' => (h.made r rfl).2.1 e'.symm), same_cell2 r6 c1' (fun e' => by have := (h.made r rfl).2.2.lt; simp at e'; omega), same_cell2 r6 c2' (fun e' => by have := (h.made r rfl).2.2.lt; simp at e'; omega), same_cell2 r6 c3' (fun e' => by have := (h.made r rfl).2.2.lt; simp at e'; omega)⟩
    clear h h1 hbx hb hO hD ha
    unfold k3O k3E at *
    go_enter Tryz.func6, Tryz.ntmps6
    go_wp2
    go_region_held3 (fun w' => w'.cell? ⟨g, 0, none⟩ = some (.map (some r)) ∧ w'.cell? ⟨w.heap.size, 0, none⟩ = some (.int .i64 k.g) ∧ w'.cell? ⟨w.heap.size, 1, none⟩ = some (.int .i64 k.n) ∧ w'.cell? ⟨w.heap.size, 2, none⟩ = some (.int .i64 k.i)) (first | exact ⟨q0, x0, x1, x2⟩ | exact k4 | exact k8) ((go_at_call 25; refine HC.out.mono ?_; rintro e W1 ⟨v, W2, rfl, k1, k2, k3, k4, k8⟩; have K2 := hide k2; have K3 := hide k3; clear k2 k3))
    all_goals
      clear lk HC x0 x1 x2 q0 qf
      go_wp2
      go_ret
      exact ⟨rfl, K2.out, K3.out⟩
  | none =>
    obtain ⟨h2, hT2, hbx2⟩ := h.fresh hO (k3O k)
    obtain ⟨x0, x1, x2⟩ := cells_three hbx2
    obtain ⟨y0, _⟩ := rm_cell h2.obj
    obtain ⟨W, hW⟩ : ∃ W, W = (((w.setCell ⟨g, 0, none⟩ (.map (some (w.heap.size + 1)))).alloc (k3O k)).alloc (.map #[] 0)) := ⟨_, rfl⟩
    have hD := (Below.refl (((w.setCell ⟨g, 0, none⟩ (.map (some (w.heap.size + 1)))).alloc (k3O k)).alloc (.map #[] 0)).heap.size (((w.setCell ⟨g, 0, none⟩ (.map (some (w.heap.size + 1)))).alloc (k3O k)).alloc (.map #[] 0))).drew
    have lk : (Instr.lookup 67 (.map (some (w.heap.size + 1))) (k3E k) false).run Tryz.prog (((w.setCell ⟨g, 0, none⟩ (.map (some (w.heap.size + 1)))).alloc (k3O k)).alloc (.map #[] 0)).drew = .ok (.slice none 0 0) (((w.setCell ⟨g, 0, none⟩ (.map (some (w.heap.size + 1)))).alloc (k3O k)).alloc (.map #[] 0)).drew := by
      rw [Di.look (h2.later hD) k, atE_nil]; rfl
    have HC : Hid (Calls Tryz.prog 25 #[.slice none 0 0, .int .i64 f, .int .i64 n] (((w.setCell ⟨g, 0, none⟩ (.map (some (w.heap.size + 1)))).alloc (k3O k)).alloc (.map #[] 0)).drew fun e w' => ∃ v w2, e = .returned v ∧ (Instr.mapUpdate 67 (.map (some (w.heap.size + 1))) (k3E k) v).run Tryz.prog w' = .ok () w2 ∧ DiS w2 O g (updR fd k [(f, n)]) (N + 1) ∧ Tch O w w2 ∧ (w'.cell? ⟨g, 0, none⟩ = some (.map (some (w.heap.size + 1))) ∧ w'.cell? ⟨w.heap.size, 0, none⟩ = some (.int .i64 k.g) ∧ w'.cell? ⟨w.heap.size, 1, none⟩ = some (.int .i64 k.n) ∧ w'.cell? ⟨w.heap.size, 2, none⟩ = some (.int .i64 k.i)) ∧ w2.cell? ⟨g, 0, none⟩ = some (.map (some (w.heap.size + 1))) ∧ w2.cell? ⟨w.heap.size, 0, none⟩ = some (.int .i64 k.g) ∧ w2.cell? ⟨w.heap.size, 1, none⟩ = some (.int .i64 k.n) ∧ w2.cell? ⟨w.heap.size, 2, none⟩ = some (.int .i64 k.i)) := by
      refine (Di.put0 (h2.later hD) (fun j hj => hO j (Nat.le_trans hT2.size (Nat.le_trans hD.size hj))) k hk f n).mono ?_
      rintro e w' ⟨v, w2, r1, r2, r3, r4, r5, r6⟩
      have c0' := same_cell (hD.trans (r5.mono hD.size)) y0
      have c1' := same_cell (hD.trans (r5.mono hD.size)) x0
      have c2' := same_cell (hD.trans (r5.mono hD.size)) x1
      have c3' := same_cell (hD.trans (r5.mono hD.size)) x2
      exact ⟨v, w2, r1, r2, r3, ((hT2.mono (fun j _ e' => e' ▸ h.own)).trans (Below.tch hD)).trans r4, ⟨c0', c1', c2', c3'⟩, same_cell2 r6 c0' (fun e' => by simp at e'; omega), same_cell2 r6 c1' (fun e' => by simp at e'), same_cell2 r6 c2' (fun e' => by simp at e'), same_cell2 r6 c3' (fun e' => by simp at e')⟩
    clear h h1 h2 hbx hbx2 hb hT2 hO hD ha hW
    unfold k3O k3E at *
    go_enter Tryz.func6, Tryz.ntmps6
    go_wp2
    go_region_held3 (fun w' => w'.cell? ⟨g, 0, none⟩ = some (.map (some (w.heap.size + 1))) ∧ w'.cell? ⟨w.heap.size, 0, none⟩ = some (.int .i64 k.g) ∧ w'.cell? ⟨w.heap.size, 1, none⟩ = some (.int .i64 k.n) ∧ w'.cell? ⟨w.heap.size, 2, none⟩ = some (.int .i64 k.i)) (first | exact ⟨y0, x0, x1, x2⟩ | exact k4 | exact k8) ((go_at_call 25; refine HC.out.mono ?_; rintro e W1 ⟨v, W2, rfl, k1, k2, k3, k4, k8⟩; have K2 := hide k2; have K3 := hide k3; clear k2 k3))
    all_goals
      clear lk HC x0 x1 x2 q0 qf y0
      go_wp2
      go_ret
      exact ⟨rfl, K2.out, K3.out⟩
end Go.Proofs.YtdogecaonlmalaaGreat
