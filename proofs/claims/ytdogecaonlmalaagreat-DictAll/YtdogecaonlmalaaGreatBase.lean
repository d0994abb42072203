/- Facts on bytes that lie in memory, shared by all proofs of this seat. -/
import Derived.Test.YtdogecaonlmalaaGreatRows
import Derived.Test.YtdogecaonlmalaaGreatMath
import Derived.WalkKit
import Derived.WalkSpells
import Derived.WalkLawsBesides
import Derived.Maps.OwnRows
import Derived.Laws.CopyOwn
import Derived.Laws.AppendOwnNone
import Derived.Maps.AppendAt
namespace Go.Proofs.YtdogecaonlmalaaGreat
open Go.RowKit

theorem infoB : (Tryz.prog.info? 5).map (fun i => (i.zero, i.size, i.bytes)) = some (some (.int .u8 0), 1, 1) := by kernel_rfl
theorem sizeB : (Tryz.prog.info? 5).map (·.size) = some 1 := by kernel_rfl

/-- A slice of bytes that may be read: n of them, the numbers l. -/
def Bs (w : World) (a : Option Addr) (n cap : Nat) (l : List Int) : Prop :=
  l.length = n ∧ n ≤ cap ∧ cap ≤ 9223372036854775807 ∧ (a = none → cap = 0) ∧
  (0 < n → ∃ b o, a = some ⟨b, o, none⟩ ∧ ∀ i, i < n → w.cell? ⟨b, o + i, none⟩ = some (.int .u8 (l.getD i 0))) ∧ ∀ x ∈ l, 0 ≤ x ∧ x ≤ 255

theorem ret_int {k : IntKind} {a b : Int} (h : a = b) : Ending.returned (.int k a) = .returned (.int k b) := by rw [h]

theorem wf_u8 {x : Int} (h : 0 ≤ x ∧ x ≤ 255) : (Lit.int .u8 x).wf = true := by
  simp [Lit.wf]; exact h

/-- The same slice in a later world in which nothing old has turned. -/
theorem Bs.later {w w' : World} {a : Option Addr} {n cap B : Nat} {l : List Int} (h : Bs w a n cap l) (hb : Below B w w') (hB : w.heap.size ≤ B) : Bs w' a n cap l := by
  obtain ⟨h1, h2, h3, h4, h5, h6⟩ := h
  refine ⟨h1, h2, h3, h4, fun hn => ?_, h6⟩
  obtain ⟨b, o, rfl, hc⟩ := h5 hn
  refine ⟨b, o, rfl, fun i hi => ?_⟩
  have h0 := hc i hi
  have hlt : b < w.heap.size := by
    by_cases hlt : b < w.heap.size
    · exact hlt
    · simp [World.cell?, Array.getElem?_eq_none (Nat.not_lt.1 hlt)] at h0
  rw [hb.cell (p := ⟨b, o + i, none⟩) (by simp; omega)]
  exact h0

theorem Bs.nil (w : World) : Bs w none 0 0 [] := ⟨rfl, Nat.le_refl _, by omega, fun _ => rfl, fun h => absurd h (Nat.lt_irrefl 0), by simp⟩

theorem lt_of_cell {w : World} {p : Addr} {v : Value} (h : w.cell? p = some v) : p.block < w.heap.size := by
  by_cases hlt : p.block < w.heap.size
  · exact hlt
  · simp [World.cell?, Array.getElem?_eq_none (Nat.not_lt.1 hlt)] at h

/-- What the call owns it may read. -/
theorem Bs.of_owns {w : World} {B : Nat} {v : Value} {l : List Int} (h : w.ownsInts B 5 .u8 v l) : ∃ a cap, v = .slice a l.length cap ∧ Bs w a l.length cap l := by
  obtain ⟨⟨h1, h2⟩, h3⟩ := h
  have hr : ∀ x ∈ l, 0 ≤ x ∧ x ≤ 255 := fun x hx => by
    have := h3 x hx
    simp [Lit.wf] at this
    exact this
  rcases h2 with ⟨rfl, h0⟩ | ⟨g, cap, cur, rfl, hg, hh, hn, hm, hs, ht⟩
  · have : l = [] := List.length_eq_zero_iff.1 h0
    subst this
    exact ⟨none, 0, rfl, Bs.nil w⟩
  · refine ⟨some ⟨g, 0, none⟩, cap, rfl, rfl, hn, by simpa [maxLen] using hm, (fun e => by cases e), fun _ => ⟨g, 0, rfl, fun i hi => ?_⟩, hr⟩
    have e : (cur.toList.take (l.length * 1))[i]? = (l.map (Value.int .u8))[i]? := by rw [ht]
    rw [List.getElem?_take, if_pos (by omega)] at e
    simp [World.cell?, hh, hi] at e ⊢
    simpa [hi] using e

theorem add_none (b o j : Nat) : (⟨b, o, none⟩ : Addr).add j = ⟨b, o + j, none⟩ := by unfold Addr.add; split <;> simp_all

theorem Bs.cells {w : World} {b o n cap : Nat} {l : List Int} (h : Bs w (some ⟨b, o, none⟩) n cap l) (j : Nat) (v : Value) (hj : (l.map (Value.int .u8))[j]? = some v) : w.cell? ((⟨b, o, none⟩ : Addr).add j) = some v := by
  obtain ⟨h1, _, _, _, h5, _⟩ := h
  have hjl : j < n := by
    have := (List.getElem?_eq_some_iff.1 hj).1
    simpa [h1] using this
  obtain ⟨b', o', e, hc⟩ := h5 (by omega)
  obtain ⟨rfl, rfl⟩ : b = b' ∧ o = o' := by simpa using e
  rw [add_none, hc j hjl]
  simp only [List.getElem?_map] at hj
  rw [List.getD_eq_getElem?_getD]
  cases hl : l[j]? with
  | none => simp [hl] at hj
  | some x => simp [hl] at hj; simp [hj]

/-- append(s, x...): s the call's own, x whatever bytes lie somewhere. -/
theorem wpList_app {w : World} {ops : Array Oper} {rest : List Oper} {o : Oper} {a : Act} {Q : Exit → Act → World → Prop} (hgd : o.guard = none) (s x : Operand)
    (ho : o.op = .call { callee := .builtin .append, args := #[s, x], argTypes := #[112, 112] })
    (B : Nat) (v : Value) (l : List Int) (hs : a.eval s = v) (hown : w.ownsInts B 5 .u8 v l)
    (ao : Option Addr) (m c : Nat) (news : List Int) (hx : a.eval x = .slice ao m c) (hb : Bs w ao m c news) (hsz : l.length + m ≤ 70368744177664) (hB : B ≤ w.heap.size)
    (h : ∀ v' w', w'.ownsInts B 5 .u8 v' (l ++ news) → w.grownBy w' v.ownBlock → (v'.ownBlock = v.ownBlock ∨ v'.ownBlock = some w.heap.size) → wpList Tryz.prog ops Q rest (a.put o.dst v') w') :
    wpList Tryz.prog ops Q (o :: rest) a w := by
  obtain ⟨i0, hi, hz0, hz1, hz2⟩ := info_parts infoB
  have hr : ∀ z ∈ news, (Lit.int .u8 z).wf = true := fun z hz => wf_u8 (hb.2.2.2.2.2 z hz)
  have hl := hb.1
  by_cases hm : m = 0
  · subst hm
    have e : news = [] := List.length_eq_zero_iff.1 hl
    subst e
    cases ao with
    | none =>
      have hc : c = 0 := hb.2.2.2.1 rfl
      subst hc
      refine wpList_append_own_none hgd s x 112 ho B 5 i0 1 Tryz.underlying112 hi v l.length (l.map (Value.int .u8)) hs hown.1 hx ?_
      exact h v w (by simpa using hown) ⟨rfl, rfl, rfl, Nat.le_refl _, fun _ _ _ => rfl⟩ (Or.inl rfl)
    | some ad =>
      refine wpList_append_own_at w hgd s x 112 ho B 5 i0 (.int .u8 0) 1 1 Tryz.underlying112 hi hz0 hz1 hz2 rfl (by decide) v l.length (l.map (Value.int .u8)) hs hown.1 ad 0 c [] hx rfl (by simp) (by simp) (by simp only [maxLen]; omega) (by omega) hB ?_
      intro v' w' h2 h3 _ h5
      exact h v' w' ⟨by simpa using h2, by simpa using hown.2⟩ h3 h5
  · obtain ⟨b, of, rfl, hc⟩ := hb.2.2.2.2.1 (by omega)
    refine wpList_append_own_at w hgd s x 112 ho B 5 i0 (.int .u8 0) 1 1 Tryz.underlying112 hi hz0 hz1 hz2 rfl (by decide) v l.length (l.map (Value.int .u8)) hs hown.1 ⟨b, of, none⟩ m c (news.map (Value.int .u8)) hx (by simp [hl]) (fun j u hj => hb.cells j u hj) (ints_oneCell .u8 news) (by simp only [maxLen]; omega) (by omega) hB ?_
    intro v' w' h2 h3 _ h5
    refine h v' w' ⟨?_, fun z hz => ?_⟩ h3 h5
    · have e : (l ++ news).length = l.length + m := by simp [hl]
      rw [e, List.map_append]
      exact h2
    · rcases List.mem_append.1 hz with hz | hz
      · exact hown.2 z hz
      · exact hr z hz

/-- Behind such an append nothing below the call's own blocks has turned. -/
theorem below_app {B : Nat} {w w' : World} {v : Value} {l : List Int} (hown : w.ownsInts B 5 .u8 v l) (hg : w.grownBy w' v.ownBlock) (hB : B ≤ w.heap.size) : Below B w w' :=
  (Below.refl B w).grown hg hB (fun k hk => (hown.1.lt k hk).1)

/-- A byte laid by itself. -/
theorem Bs.one (w : World) (x : Int) (h : 0 ≤ x ∧ x ≤ 255) : Bs (w.alloc (.cells #[.int .u8 x] 5)) (some ⟨w.heap.size, 0, none⟩) 1 1 [x] := by
  refine ⟨rfl, Nat.le_refl _, by omega, (fun e => by cases e), fun _ => ⟨w.heap.size, 0, rfl, fun i hi => ?_⟩, by simpa using h⟩
  obtain rfl : i = 0 := by omega
  have := cell_one_new w (.int .u8 x) 5 0 (.int .u8 x) rfl
  rw [add_none] at this
  exact this

theorem owns_alloc {w : World} {B : Nat} {v : Value} {l : List Int} (h : w.ownsInts B 5 .u8 v l) (o : Obj) : (w.alloc o).ownsInts B 5 .u8 v l := h.alloc o

theorem i64_not_any (x : Int) (h0 : -9223372036854775808 ≤ x) (h1 : x ≤ 9223372036854775807) : bits .xor .i64 (-1) x = -1 - x := by
  show IntKind.i64.wrap ((BitVec.ofInt 64 (-1) ^^^ BitVec.ofInt 64 x).toNat : Int) = _
  have e : BitVec.ofInt 64 (-1) = BitVec.allOnes 64 := by decide
  rw [e, BitVec.allOnes_xor, BitVec.toNat_not, BitVec.toNat_ofInt]
  simp [IntKind.wrap, IntKind.bits, IntKind.signed]
  omega

theorem or_add (acc k d : Nat) (ha : acc < 2 ^ (7 * k)) (hd : acc + d * 2 ^ (7 * k) < 18446744073709551616) : bits .or .u64 (acc : Int) ((d * 2 ^ (7 * k) : Nat) : Int) = ((acc + d * 2 ^ (7 * k) : Nat) : Int) := by
  rw [bits_or_u64_nat _ _ (by omega) (by omega)]
  have := Nat.two_pow_add_eq_or_of_lt ha d
  rw [Nat.or_comm, Nat.mul_comm d, ← this, Nat.add_comm]

theorem grown_trans {a b c : World} {row : Option Nat} (h : a.grownBy b row) (k : b.grownBy c row) : a.grownBy c row :=
  ⟨k.os.trans h.os, k.tape.trans h.tape, k.output.trans h.output, Nat.le_trans h.size k.size, fun i hi hne => (k.block i (Nat.lt_of_lt_of_le hi h.size) hne).trans (h.block i hi hne)⟩
theorem grown_refl (w : World) (row : Option Nat) : w.grownBy w row := ⟨rfl, rfl, rfl, Nat.le_refl _, fun _ _ _ => rfl⟩
theorem grown_drew {a b : World} {row : Option Nat} (h : a.grownBy b row) : a.grownBy b.drew row := ⟨h.os, h.tape, h.output, h.size, h.block⟩
theorem grown_below {a b : World} {g B : Nat} (h : a.grownBy b (some g)) (hB : B ≤ g) (hs : B ≤ a.heap.size) : Below B a b :=
  ⟨h.os, h.tape, h.output, h.size, fun k hk => h.block k (by omega) (by simp; omega)⟩
theorem below_grown {a b : World} (h : Below a.heap.size a b) (row : Option Nat) : a.grownBy b row := ⟨h.os, h.tape, h.output, h.size, fun k hk _ => h.block k hk⟩

end Go.Proofs.YtdogecaonlmalaaGreat
