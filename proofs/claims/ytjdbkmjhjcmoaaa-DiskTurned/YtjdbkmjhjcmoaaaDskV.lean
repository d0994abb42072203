/- One byte turned, told file by file. -/
import Derived.Test.YtjdbkmjhjcmoaaaDskL
namespace Go.Proofs.Ytjdbkmjhjcmoaaa
open Go.RowKit Go.MapKept

def lenF (F : Files) (s : ByteArray) : Nat := ((F s).getD []).length
def totF (F : Files) (ns : List ByteArray) (j : Nat) : Nat := ((ns.take j).map (lenF F)).sum

theorem totF_le (F : Files) (M : Nat) (h : capF F M) (ns : List ByteArray) (j : Nat) : totF F ns j ≤ M * ns.length := by
  unfold totF
  have h1 : ∀ l : List ByteArray, (l.map (lenF F)).sum ≤ M * l.length := by
    intro l
    induction l with
    | nil => simp
    | cons a l ih =>
      have : lenF F a ≤ M := by
        unfold lenF
        cases hF : F a with
        | none => simp
        | some z => exact h a z hF
      rw [List.map_cons, List.sum_cons, List.length_cons, Nat.mul_add, Nat.mul_one]
      omega
  refine Nat.le_trans (h1 _) (Nat.mul_le_mul_left M ?_)
  rw [List.length_take]; omega

theorem totF_succ (F : Files) (ns : List ByteArray) (j : Nat) (s : ByteArray) (h : ns[j]? = some s) : totF F ns (j + 1) = totF F ns j + lenF F s := by
  unfold totF
  rw [List.take_add_one, h]
  simp

theorem turnF_not (F : Files) (ns : List ByteArray) (b : Nat) (s : ByteArray) (h : s ∉ ns) : turnF F ns b s = F s := by
  induction ns generalizing b with
  | nil => rfl
  | cons n ns ih =>
    rw [List.mem_cons, not_or] at h
    unfold turnF
    split
    · rw [setF, if_neg h.1]
    · exact ih _ h.2

theorem turnF_at (F : Files) (ns : List ByteArray) (hn : ns.Nodup) (b j : Nat) (s : ByteArray) (z : List Int) (hj : ns[j]? = some s) (hz : F s = some z) :
    ∃ y, turnF F ns b s = some y ∧ y.length = z.length ∧ ∀ k, k < z.length → y.getD k 0 = if totF F ns j + k = b then flipB (z.getD k 0) else z.getD k 0 := by
  induction ns generalizing b j with
  | nil => simp at hj
  | cons n ns ih =>
    rw [List.nodup_cons] at hn
    have hl : ∀ j', totF F (n :: ns) (j' + 1) = lenF F n + totF F ns j' := by
      intro j'; simp [totF]
    have hln : lenF F n = ((F n).getD []).length := rfl
    cases j with
    | zero =>
      have e : n = s := by simpa using hj
      subst e
      have hgz : (F n).getD [] = z := by rw [hz]; rfl
      have ht : totF F (n :: ns) 0 = 0 := by simp [totF]
      rw [ht]
      unfold turnF
      rw [hgz]
      by_cases hb : b < z.length
      · rw [if_pos hb]
        refine ⟨_, by rw [setF, if_pos rfl], by simp, fun k hk => ?_⟩
        rw [Nat.zero_add]
        by_cases e : k = b
        · subst e
          rw [if_pos rfl]
          simp [List.getD_eq_getElem?_getD, hk]
        · rw [if_neg e]
          simp only [List.getD_eq_getElem?_getD]
          rw [List.getElem?_set_ne (fun e' => e e'.symm)]
      · rw [if_neg hb]
        refine ⟨z, by rw [turnF_not F ns _ n hn.1, hz], rfl, fun k hk => ?_⟩
        rw [if_neg (by omega)]
    | succ j =>
      have hj' : ns[j]? = some s := by simpa using hj
      have hne : s ≠ n := fun e => hn.1 (by rw [← e]; exact List.mem_of_getElem? hj')
      rw [hl j]
      unfold turnF
      by_cases hb : b < ((F n).getD []).length
      · rw [if_pos hb]
        refine ⟨z, by rw [setF, if_neg hne, hz], rfl, fun k hk => ?_⟩
        rw [if_neg (by omega)]
      · rw [if_neg hb]
        obtain ⟨y, h1, h2, h3⟩ := ih hn.2 (b - ((F n).getD []).length) j hj'
        refine ⟨y, h1, h2, fun k hk => ?_⟩
        rw [h3 k hk]
        by_cases e : totF F ns j + k = b - ((F n).getD []).length
        · rw [if_pos e, if_pos (by omega)]
        · rw [if_neg e, if_neg (by omega)]

/-- What a crash with all synced has of a file. -/
def Like (F C : Files) (bad : Int) (ns : List ByteArray) : Prop :=
  ∀ (j : Nat) (s : ByteArray) (z : List Int), ns[j]? = some s → F s = some z → ∃ y, C s = some y ∧ y.length = z.length ∧ ∀ k, k < z.length → y.getD k 0 = if ((totF F ns j + k : Nat) : Int) = bad then flipB (z.getD k 0) else z.getD k 0

theorem CrashOf.like {F C : Files} {bad : Int} (h : CrashOf F bad C) (ns : List ByteArray) (hns : NamesOf F ns) : Like F C bad ns := by
  intro j s z hj hz
  rcases h with ⟨h0, rfl⟩ | ⟨h0, ms, hms, rfl⟩
  · refine ⟨z, hz, rfl, fun k hk => ?_⟩
    rw [if_neg (by omega)]
  · obtain rfl := hms.uniq hns
    obtain ⟨y, h1, h2, h3⟩ := turnF_at F ms hns.1 bad.toNat j s z hj hz
    refine ⟨y, h1, h2, fun k hk => ?_⟩
    rw [h3 k hk]
    by_cases e : totF F ms j + k = bad.toNat
    · rw [if_pos e, if_pos (by omega)]
    · rw [if_neg e, if_neg (by omega)]

theorem xor_flip (x : Int) (h : 0 ≤ x ∧ x ≤ 255) : bits .xor .u8 x (flipB x) = 1 := by
  obtain ⟨n, rfl⟩ := Int.eq_ofNat_of_zero_le h.1
  have e1 : ∀ m : Nat, m < 256 → (BitVec.ofInt 8 (m : Int)).toNat = m := by
    intro m hm
    rw [BitVec.ofInt_natCast, BitVec.toNat_ofNat]; exact Nat.mod_eq_of_lt (by omega)
  have hx : ∀ a b : Nat, a < 256 → b < 256 → bits .xor .u8 (a : Int) (b : Int) = ((a ^^^ b : Nat) : Int) := by
    intro a b ha hb
    have hlt : a ^^^ b < 2 ^ 8 := Nat.xor_lt_two_pow (by omega) (by omega)
    show IntKind.u8.wrap ((BitVec.ofInt 8 (a : Int) ^^^ BitVec.ofInt 8 (b : Int)).toNat : Int) = _
    rw [BitVec.toNat_xor, e1 a ha, e1 b hb, IntKind.wrap_u8]
    omega
  have hn : n < 256 := by omega
  have hlt : n ^^^ 1 < 2 ^ 8 := Nat.xor_lt_two_pow (by omega) (by omega)
  unfold flipB
  have h1 := hx n 1 hn (by omega)
  rw [show ((1 : Nat) : Int) = (1 : Int) from rfl] at h1
  rw [h1, hx n (n ^^^ 1) hn (by omega), ← Nat.xor_assoc, Nat.xor_self, Nat.zero_xor]
  rfl

/-- How many bytes were turned ahead of a place, and which one. -/
def cntB (bad : Int) (p : Nat) : Nat := if 0 ≤ bad ∧ bad < p then 1 else 0
def whichB (bad : Int) (p : Nat) : Int := if 0 ≤ bad ∧ bad < p then bad else -1

theorem cntB_next (bad : Int) (p : Nat) (h : (p : Int) = bad) : cntB bad p = 0 ∧ cntB bad (p + 1) = 1 ∧ whichB bad (p + 1) = (p : Int) := by
  unfold cntB whichB
  rw [if_neg (by omega), if_pos (by omega), if_pos (by omega)]
  exact ⟨rfl, rfl, h.symm⟩
theorem cntB_same (bad : Int) (p : Nat) (h : ¬ (p : Int) = bad) : cntB bad (p + 1) = cntB bad p ∧ whichB bad (p + 1) = whichB bad p := by
  unfold cntB whichB
  by_cases e : 0 ≤ bad ∧ bad < p
  · rw [if_pos (by omega), if_pos e, if_pos (by omega), if_pos e]; exact ⟨rfl, rfl⟩
  · rw [if_neg (by omega), if_neg e, if_neg (by omega), if_neg e]; exact ⟨rfl, rfl⟩
theorem cntB_le (bad : Int) (p : Nat) : cntB bad p ≤ 1 := by unfold cntB; split <;> omega

/-- A disk and what a crash left of it. -/
def Two (g g2 : Nat) (F C : Files) (w wr : World) : Prop :=
  (∃ O, DskS wr O g F F [] []) ∧ (∃ O, Dsk wr O g2 C C [] []) ∧ capF F 1000 ∧ capF C 60000 ∧ namF F 15 ∧ Below w.heap.size w wr
theorem Two.later {g g2 : Nat} {F C : Files} {w wr wr' : World} (h : Two g g2 F C w wr) (hb : Below wr.heap.size wr wr') : Two g g2 F C w wr' := by
  obtain ⟨⟨O, h1⟩, ⟨O', h2⟩, h3, h4, h5, h6⟩ := h
  exact ⟨⟨O, h1.later hb⟩, ⟨O', h2.later hb⟩, h3, h4, h5, h6.trans (hb.mono h6.size)⟩

theorem Syn.crash {O : Nat → Prop} {g : Nat} {F : Files} {w wr : World} (h : Syn O g F w wr) (bad : Int) (hbad : (Lit.int .i64 bad).wf = true) :
    Calls Try.prog 23 #[.pointer (some ⟨g, 0, none⟩), .int .i64 0, .int .i64 bad] wr fun e w' => ∃ g2 C, e = .returned (.pointer (some ⟨g2, 0, none⟩)) ∧ Hid (Two g g2 F C w w') ∧ Hid (CrashOf F bad C) := by
  obtain ⟨h1, h2, h3⟩ := h
  refine (crash_s O g 15 F F [] [] 0 bad wr h1 h2 (Or.inl (by omega)) (by decide) hbad).mono ?_
  rintro e w' ⟨g2, C, rfl, k1, k2, k3, _⟩
  have k1' : CrashOf F bad C := by simpa [redoF] using k1
  have hc := k1'.caps (h2.capN.mono (by omega : 40 * 15 ≤ 1000)) h2.namN
  exact ⟨g2, C, rfl, ⟨⟨O, h1.later k3⟩, ⟨_, k2⟩, h2.capN.mono (by omega), hc.1.mono (by omega), h2.namN, h3.trans (k3.mono h3.size)⟩, k1'⟩

theorem Two.list {g g2 : Nat} {F C : Files} {w wr : World} (h : Two g g2 F C w wr) :
    Calls Try.prog 21 #[.pointer (some ⟨g, 0, none⟩)] wr fun e w' => ∃ v ns, e = .returned v ∧ NamesOf F ns ∧ OwnS w' 0 v ns ∧ ns.length ≤ 15 ∧ Below wr.heap.size wr w' := by
  obtain ⟨⟨O, h1⟩, h2, h3, h4, h5, h6⟩ := h
  refine (list_s O g 15 F F [] [] wr h1 h5 (by omega)).mono ?_
  rintro e w' ⟨v, ns, rfl, k1, k2, k3⟩
  exact ⟨v, ns, rfl, k1, k2.zero, h5.few ns k1.1 (fun s hs => (k1.2.1 s).1 hs), k3⟩

theorem Two.read1 {g g2 : Nat} {F C : Files} {w wr : World} (h : Two g g2 F C w wr) (s : ByteArray) (z : List Int) (hz : F s = some z) :
    Calls Try.prog 22 #[.pointer (some ⟨g, 0, none⟩), .string s] wr fun e w' => ∃ a cap, e = .returned (.tuple #[.slice a z.length cap, .int .i64 0]) ∧ Hid (Bs w' a z.length cap z) ∧ Hid (Below wr.heap.size wr w') := by
  obtain ⟨⟨O, h1⟩, h2, h3, h4, h5, h6⟩ := h
  refine (read_s O g F F [] [] s wr h1 (h3.mono (by omega))).mono ?_
  rintro e w' ⟨hb, ⟨hC, _⟩ | ⟨y', a, cap, hC, rfl, ho⟩⟩
  · rw [hC] at hz; cases hz
  · rw [hC] at hz; cases hz
    obtain ⟨a', cap', e, hbs⟩ := Bs.of_owns ho
    obtain ⟨rfl, rfl⟩ : a = a' ∧ cap = cap' := by simpa using e
    exact ⟨a, cap, rfl, hbs, hb⟩
theorem Two.read2 {g g2 : Nat} {F C : Files} {w wr : World} (h : Two g g2 F C w wr) (s : ByteArray) (y : List Int) (hy : C s = some y) :
    Calls Try.prog 22 #[.pointer (some ⟨g2, 0, none⟩), .string s] wr fun e w' => ∃ a cap, e = .returned (.tuple #[.slice a y.length cap, .int .i64 0]) ∧ Hid (Bs w' a y.length cap y) ∧ Hid (Below wr.heap.size wr w') := by
  obtain ⟨h1, ⟨O, h2⟩, h3, h4, h5, h6⟩ := h
  refine (read_m O g2 C C [] [] s wr h2 h4).mono ?_
  rintro e w' ⟨hb, ⟨hC, _⟩ | ⟨y', a, cap, hC, rfl, ho⟩⟩
  · rw [hC] at hy; cases hy
  · rw [hC] at hy; cases hy
    obtain ⟨a', cap', e, hbs⟩ := Bs.of_owns ho
    obtain ⟨rfl, rfl⟩ : a = a' ∧ cap = cap' := by simpa using e
    exact ⟨a, cap, rfl, hbs, hb⟩
end Go.Proofs.Ytjdbkmjhjcmoaaa
