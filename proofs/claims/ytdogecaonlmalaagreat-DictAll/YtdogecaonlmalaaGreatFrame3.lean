/- What frame.Get does: contracts. -/
import Derived.Test.YtdogecaonlmalaaGreatFrame2
import Derived.Deep.RegionHeld3
import Derived.Deep.DrawnRows
namespace Go.Proofs.YtdogecaonlmalaaGreat
open Go.RowKit

theorem or_add32 (acc k d : Nat) (ha : acc < 2 ^ (8 * k)) (hd : acc + d * 2 ^ (8 * k) < 4294967296) : bits .or .u32 (acc : Int) ((d * 2 ^ (8 * k) : Nat) : Int) = ((acc + d * 2 ^ (8 * k) : Nat) : Int) := by
  have e := Nat.two_pow_add_eq_or_of_lt ha d
  have h1 : (BitVec.ofInt 32 (acc : Int)).toNat = acc := by
    rw [BitVec.ofInt_natCast, BitVec.toNat_ofNat]; exact Nat.mod_eq_of_lt (by omega)
  have h2 : (BitVec.ofInt 32 ((d * 2 ^ (8 * k) : Nat) : Int)).toNat = d * 2 ^ (8 * k) := by
    rw [BitVec.ofInt_natCast, BitVec.toNat_ofNat]; exact Nat.mod_eq_of_lt (by omega)
  show IntKind.u32.wrap ((BitVec.ofInt 32 (acc : Int) ||| BitVec.ofInt 32 ((d * 2 ^ (8 * k) : Nat) : Int)).toNat : Int) = _
  rw [BitVec.toNat_or, h1, h2, Nat.or_comm, Nat.mul_comm d, ← e, IntKind.wrap_u32, Nat.mul_comm, Nat.add_comm]
  omega

/-- Four bytes as a number, the least first. -/
def readL : List Int → Nat
  | [] => 0
  | c :: r => c.toNat + 256 * readL r

theorem readL_snoc (l : List Int) (c : Int) : readL (l ++ [c]) = readL l + c.toNat * 2 ^ (8 * l.length) := by
  induction l with
  | nil => simp [readL]
  | cons x l ih =>
    simp only [List.cons_append, readL, ih, List.length_cons]
    rw [show 8 * (l.length + 1) = 8 * l.length + 8 from by omega, Nat.pow_add]
    have : c.toNat * (2 ^ (8 * l.length) * 2 ^ 8) = 256 * (c.toNat * 2 ^ (8 * l.length)) := by
      rw [show (2 : Nat) ^ 8 = 256 from rfl, ← Nat.mul_assoc, Nat.mul_comm]
    omega

theorem readL_lt (l : List Int) (h : ∀ x ∈ l, 0 ≤ x ∧ x ≤ 255) : readL l < 2 ^ (8 * l.length) := by
  induction l with
  | nil => simp [readL]
  | cons x l ih =>
    have h1 := h x (List.mem_cons_self ..)
    have h2 := ih (fun y hy => h y (List.mem_cons_of_mem _ hy))
    simp only [readL, List.length_cons]
    rw [show 8 * (l.length + 1) = 8 * l.length + 8 from by omega, Nat.pow_add]
    have : (2 : Nat) ^ 8 = 256 := rfl
    omega

theorem readL_sum4 (s : Nat) (h : s < 4294967296) : readL (sum4 s) = s := by
  have e : sum4 s = [((s % 256 : Nat) : Int), ((s / 256 % 256 : Nat) : Int), ((s / 65536 % 256 : Nat) : Int), ((s / 16777216 % 256 : Nat) : Int)] := by
    simp [sum4, List.range_succ]
  rw [e]
  simp only [readL, Int.toNat_natCast]
  omega

theorem read_step (l : List Int) (k n : Nat) (hl : l.length = n) (hk : k < n) (hn : n ≤ 4) (h : ∀ x ∈ l, 0 ≤ x ∧ x ≤ 255) :
    bits .or .u32 ((readL (l.take k) : Nat) : Int) (l[k]?.getD 0 * 2 ^ (8 * k) % 4294967296) = ((readL (l.take (k + 1)) : Nat) : Int) := by
  have hc := range_of h k
  have e : l.take (k + 1) = l.take k ++ [l[k]?.getD 0] := by
    rw [List.take_succ_eq_append_getElem (by omega)]
    have : k < l.length := by omega
    simp [this]
  have hlen : (l.take k).length = k := by simp; omega
  have hlt := readL_lt (l.take k) (fun x hx => h x (List.mem_of_mem_take hx))
  have hlt2 := readL_lt (l.take (k + 1)) (fun x hx => h x (List.mem_of_mem_take hx))
  rw [e, readL_snoc, hlen]
  rw [e, readL_snoc, hlen] at hlt2
  rw [hlen] at hlt
  have hb : (2 : Nat) ^ (8 * (l.take k ++ [l[k]?.getD 0]).length) ≤ 2 ^ 32 := Nat.pow_le_pow_right (by omega) (by simp; omega)
  have e32 : (2 : Nat) ^ 32 = 4294967296 := by decide
  have ec : l[k]?.getD 0 * 2 ^ (8 * k) = (((l[k]?.getD 0).toNat * 2 ^ (8 * k) : Nat) : Int) := by
    rw [Int.natCast_mul, Int.natCast_pow]
    congr 1
    omega
  have ew : (((l[k]?.getD 0).toNat * 2 ^ (8 * k) : Nat) : Int) % 4294967296 = (((l[k]?.getD 0).toNat * 2 ^ (8 * k) : Nat) : Int) := by omega
  rw [ec, ew]
  exact or_add32 _ k _ hlt (by omega)

set_option maxRecDepth 100000 in
set_option maxHeartbeats 800000 in
theorem readSum_some (b o n cap : Nat) (l : List Int) (w : World) (hl : l.length = n) (hn : n ≤ 4) (h6 : ∀ x ∈ l, 0 ≤ x ∧ x ≤ 255)
    (hc : ∀ i, i < n → w.cell? ⟨b, o + i, none⟩ = some (.int .u8 (l.getD i 0))) :
    Calls Tryz.prog 89 #[.slice (some ⟨b, o, none⟩) n cap] w fun e w' => e = .returned (.int .u32 (readL l)) ∧ w' = w := by
  have HL : Hid (l.length = n) := hl
  have H6 := hide h6
  clear hl h6
  go_enter Tryz.func89, Tryz.ntmps89
  go_wp2
  go_loop [3, 8] (fun x i => ∃ k R : Nat, k ≤ n ∧ i = .int .i64 k ∧ x = .int .u32 R ∧ Hid (R = readL (l.take k))) (fun _ i => n - (intOf i).toNat)
  case atStart => exact ⟨0, 0, by omega, rfl, rfl, rfl⟩
  case round =>
    obtain ⟨k, R, hk, rfl, rfl, HR⟩ := hrel
    by_cases hlt : k < n
    · have hcell := hc k hlt
      have hrk := range_of H6.out k
      have HS := hide (read_step l k n HL.out hlt hn H6.out)
      rw [← HR.out] at HS
      clear hc
      go_wp2
      go_round
      case rel => exact ⟨k + 1, _, by omega, by go_num, by rw [HS.out], rfl⟩
      case measure => simp [intOf]; omega
    · obtain rfl : k = n := by omega
      have e : R = readL l := by rw [HR.out, List.take_of_length_le (by rw [HL.out]; exact Nat.le_refl _)]
      have HE := hide e
      clear hc e
      go_wp2
      go_ret
      exact ⟨ret_int (by rw [HE.out]), rfl⟩

theorem readSum_any (a : Option Addr) (n cap : Nat) (l : List Int) (w : World) (h : Bs w a n cap l) (h0 : 0 < n) (hn : n ≤ 4) :
    Calls Tryz.prog 89 #[.slice a n cap] w fun e w' => e = .returned (.int .u32 (readL l)) ∧ w' = w := by
  obtain ⟨h1, h2, h3, h4, h5, h6⟩ := h
  obtain ⟨b, o, rfl, hc⟩ := h5 h0
  exact readSum_some b o n cap l w h1 hn h6 hc

theorem run_cut (b o n cap i j k : Nat) (I J : Int) (eI : I = (i : Int)) (eJ : J = (j : Int)) (hi : i < cap) (hij : i ≤ j) (hj : j ≤ cap) (ek : j - i = k) (W : World) :
    (Instr.slice 112 (.slice (some ⟨b, o, none⟩) n cap) (some (.int .i64 I)) (some (.int .i64 J)) none).run Tryz.prog W = .ok (.slice (some ⟨b, o + i, none⟩) k (cap - i)) W := by
  subst eI; subst eJ; subst ek
  have h1 : ¬ cap = i := by omega
  have e1 : (Instr.sliceBound (.int .i64 (j : Int)) cap .sliceAcap).run Tryz.prog W = .ok j W := by
    have := run_sliceBound (P := Tryz.prog) W .i64 (j : Int) cap .sliceAcap (by omega) (by omega)
    simpa using this
  have e2 : (Instr.sliceBound (.int .i64 (i : Int)) j .sliceB).run Tryz.prog W = .ok i W := by
    have := run_sliceBound (P := Tryz.prog) W .i64 (i : Int) j .sliceB (by omega) (by omega)
    simpa using this
  simp [Instr.slice, Instr.sliceBounds, run_underlying Tryz.underlying112, e1, e2, h1, Addr.add]

/-- Bytes cut out of bytes. -/
theorem Bs.cut {w : World} {b o n cap i j : Nat} {l : List Int} (h : Bs w (some ⟨b, o, none⟩) n cap l) (hi : i < j) (hj : j ≤ n) : Bs w (some ⟨b, o + i, none⟩) (j - i) (cap - i) ((l.drop i).take (j - i)) := by
  obtain ⟨h1, h2, h3, h4, h5, h6⟩ := h
  obtain ⟨b', o', e, hc⟩ := h5 (by omega)
  obtain ⟨rfl, rfl⟩ : b = b' ∧ o = o' := by simpa using e
  refine ⟨by simp; omega, by omega, by omega, (fun e => by cases e), fun _ => ⟨b, o + i, rfl, fun x hx => ?_⟩, fun x hx => h6 x (List.mem_of_mem_drop (List.mem_of_mem_take hx))⟩
  rw [Nat.add_assoc, hc (i + x) (by omega)]
  simp only [List.getD_eq_getElem?_getD, List.getElem?_take, List.getElem?_drop, if_pos hx]

theorem Ps.drew {w : World} {pa : Option Addr} {m : Nat} {ls : List (List Int)} (h : Ps w pa m ls) : Ps w.drew pa m ls := h.later (Below.refl _ _).drew
theorem owns_mono {w : World} {B B' : Nat} {v : Value} {l : List Int} (h : w.ownsInts B 5 .u8 v l) (hB : B' ≤ B) : w.ownsInts B' 5 .u8 v l := by
  obtain ⟨⟨h1, h2⟩, h3⟩ := h
  refine ⟨⟨h1, ?_⟩, h3⟩
  rcases h2 with h2 | ⟨g, cap, cur, hv, hg, r⟩
  · exact Or.inl h2
  · exact Or.inr ⟨g, cap, cur, hv, by omega, r⟩

set_option maxRecDepth 100000 in
set_option maxHeartbeats 400000 in
theorem frameGet_text (b o n cap L took : Nat) (l : List Int) (w : World) (h : Bs w (some ⟨b, o, none⟩) n cap l) (hg : M.getL 0 0 l = (L, took, 0)) (hL : 0 < L) (hL4 : L ≤ 4096) (ht : 1 ≤ took) (ht10 : took ≤ 10) (hfit : took + 4 + L ≤ n)
    (hsum : readL ((l.drop took).take 4) = sumOf ((l.drop (took + 4)).take L)) :
    Calls Tryz.prog 58 #[.slice (some ⟨b, o, none⟩) n cap] w fun e w' => ∃ g c, e = .returned (.tuple #[.slice (some ⟨g, 0, none⟩) L c, .int .i64 ((took : Int) + 4 + L), .int .i64 0]) ∧ w.heap.size ≤ g ∧ w'.ownsInts w.heap.size 5 .u8 (.slice (some ⟨g, 0, none⟩) L c) ((l.drop (took + 4)).take L) ∧ Below w.heap.size w w' := by
  have hn := h.2.1
  have hcap := h.2.2.1
  have H1 := get_any (some ⟨b, o, none⟩) n cap l w h
  rw [hg] at H1
  have HG := hide H1
  have HB1 : Hid (∀ W, Below w.heap.size w W → Bs W (some ⟨b, o + took, none⟩) 4 (cap - took) ((l.drop took).take 4)) := by
    intro W hW
    have := (h.cut (i := took) (j := took + 4) (by omega) (by omega)).later hW (Nat.le_refl _)
    simpa using this
  have HB2 : Hid (∀ W, Below w.heap.size w W → Bs W (some ⟨b, o + (took + 4), none⟩) L (cap - (took + 4)) ((l.drop (took + 4)).take L)) := by
    intro W hW
    have := (h.cut (i := took + 4) (j := took + 4 + L) (by omega) (by omega)).later hW (Nat.le_refl _)
    rwa [Nat.add_sub_cancel_left] at this
  obtain ⟨X1, HX1⟩ : ∃ X, Hid (X = (l.drop took).take 4) := ⟨_, rfl⟩
  obtain ⟨X2, HX2⟩ : ∃ X, Hid (X = (l.drop (took + 4)).take L) := ⟨_, rfl⟩
  rw [← HX1.out] at HB1 hsum
  rw [← HX2.out] at HB2 hsum ⊢
  have HS := hide hsum
  clear hg H1 h hsum
  have C1 : Hid (∀ W, Below w.heap.size w W → Calls Tryz.prog 89 #[.slice (some ⟨b, o + took, none⟩) 4 (cap - took)] W fun e w' => e = .returned (.int .u32 (readL X1)) ∧ w' = W) :=
    fun W hW => readSum_any _ _ _ X1 W (HB1.out W hW) (by omega) (by omega)
  have HW1 : Hid (Below w.heap.size w w.drew) := (Below.refl _ _).drew
  have HW2 : Hid (∀ o, Below w.heap.size w (w.alloc o).drew) := fun o => ((Below.refl _ _).alloc (Nat.le_refl _) _).drew
  have C2 : Hid (Calls Tryz.prog 70 #[.slice (some ⟨w.heap.size, 0, none⟩) 1 1] (w.alloc (.cells #[.slice (some ⟨b, o + (took + 4), none⟩) L (cap - (took + 4))] 112)).drew fun e w' => e = .returned (.int .u32 (sumOf X2)) ∧ Below w.heap.size w w') := by
    refine (of_one 1 (Ps.drew (Ps.one (HB2.out w (Below.refl _ _))))).mono ?_
    rintro e w' ⟨S, rfl, HS, _, hb⟩
    refine ⟨ret_int (by rw [HS.out]), ?_⟩
    exact (HW2.out _).trans (hb.mono (by simp))
  have hne : (((readL X1 : Nat) : Int) != ((sumOf X2 : Nat) : Int)) = false := by rw [HS.out]; simp
  have s1 := fun W => run_cut b o n cap took (took + 4) 4 (took : Int) ((took : Int) + 4) rfl (by omega) (by omega) (by omega) (by omega) (by omega) W
  have s2 := fun W => run_cut b o n cap (took + 4) (took + 4 + L) L ((took : Int) + 4) ((took : Int) + 4 + L) (by omega) (by omega) (by omega) (by omega) (by omega) (by omega) W
  go_enter Tryz.func58, Tryz.ntmps58
  go_wp2_with fail
  refine HG.out.mono ?_
  rintro e w1 ⟨rfl, rfl⟩
  go_wp2
  go_region_with (first | (go_at_call 89; (refine (C1.out _ ?_).mono ?_; (first | exact HW1.out | exact HW2.out _); rintro e W1 ⟨rfl, rfl⟩)) | (go_at_call 70; (refine C2.out.mono ?_; rintro e W2 ⟨rfl, hb2⟩)))
  all_goals
    have C3 := hide (copyRoomF (some ⟨b, o + (took + 4), none⟩) L (cap - (took + 4)) 0 X2 W2 (HB2.out W2 hb2) (by omega) (by omega))
    go_wp2_with fail
    refine C3.out.mono ?_
    rintro e w3 ⟨rfl, hown3, hb3⟩
    go_wp2
    go_ret3
    exact ⟨_, _, rfl, hb2.size, owns_mono hown3 hb2.size, hb2.trans (hb3.mono hb2.size)⟩
end Go.Proofs.YtdogecaonlmalaaGreat
