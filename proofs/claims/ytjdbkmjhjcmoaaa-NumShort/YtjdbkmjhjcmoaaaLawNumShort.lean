/- The statement NumShort: a number takes as few bytes as it may, and one that takes more is none, for every number. -/
import Derived.Test.YtjdbkmjhjcmoaaaBegun
import Derived.ProofKit
import Derived.OpenShut
import Derived.ShutString
import Derived.ChangeOld
namespace Go.Proofs.Ytjdbkmjhjcmoaaa.numShort
open Go.ChangeShapes Go.WideShapes Go.ChangeAt Go.RowKit

theorem own : ownKnob Try.prog.godebug = none := by kernel_rfl

/-- How many bytes are left to be counted. -/
def rest (f m : Nat) : Nat := if m = 0 then 0 else (M.numB f m).length

theorem rest_start (n : Nat) : 1 + rest 8 (n / 128) = (M.numB 9 n).length := by
  unfold rest
  by_cases h : n < 128
  · rw [if_pos (by omega), M.numB_lt _ _ h]; rfl
  · rw [if_neg (by omega), M.numB_ge 8 n (by omega)]; simp; omega

theorem rest_step (f m : Nat) (hm : 0 < m) (hf : m < 2 ^ (7 * f) * 128) : ∃ f', 1 + rest f' (m / 128) = rest f m ∧ m / 128 < 2 ^ (7 * f') * 128 := by
  unfold rest
  by_cases h : m < 128
  · refine ⟨f, ?_, ?_⟩
    · rw [if_pos (by omega), if_neg (by omega), M.numB_lt _ _ h]; rfl
    · exact Nat.lt_of_le_of_lt (Nat.div_le_self _ _) hf
  · cases f with
    | zero => exact absurd (M.pow7_zero m hf) h
    | succ f =>
      refine ⟨f, ?_, M.pow7_div f m hf⟩
      rw [if_neg (by omega), if_neg (by omega), M.numB_ge f m (by omega)]; simp; omega

theorem start_lt (n : Nat) (h : n < 18446744073709551616) : n / 128 < 2 ^ (7 * 8) * 128 := by
  have : (2 : Nat) ^ (7 * 8) * 128 = 9223372036854775808 := by decide
  omega
theorem all_lt (n : Nat) (h : n < 18446744073709551616) : n < 2 ^ (7 * 9) * 128 := by
  have : (2 : Nat) ^ (7 * 9) * 128 = 1180591620717411303424 := by decide
  omega

theorem last_byte (f : Nat) : ∀ (m i acc : Nat), m < 2 ^ (7 * f) * 128 → i + f = 9 →
    ∃ pre x, M.numB f m = pre ++ [x] ∧ 0 ≤ x ∧ x ≤ 127 ∧ M.getL i acc (pre ++ [x + 128] ++ [0]) = (0, 0, 1) := by
  induction f with
  | zero =>
    intro m i acc hm hi
    have h := M.pow7_zero m hm
    refine ⟨[], (m : Int), rfl, by omega, by omega, ?_⟩
    exact M.getL_form _ _ _ _ (by omega) (by omega)
  | succ f ih =>
    intro m i acc hm hi
    by_cases h : m < 128
    · refine ⟨[], (m : Int), M.numB_lt _ _ h, by omega, by omega, ?_⟩
      show M.getL i acc (((m : Int) + 128) :: [0]) = _
      rw [M.getL_more _ _ _ _ (by omega) (by omega)]
      exact M.getL_zero _ _ _ _ (by omega) rfl
    · obtain ⟨pre, x, e, h0, h1, hg⟩ := ih (m / 128) (i + 1) (acc + ((((m % 128 + 128 : Nat) : Int).toNat % 128) * 2 ^ (7 * i))) (M.pow7_div f m hm) (by omega)
      refine ⟨((m % 128 + 128 : Nat) : Int) :: pre, x, ?_, h0, h1, ?_⟩
      · rw [M.numB_ge f m (by omega), e, List.cons_append]
      · rw [List.cons_append, List.cons_append, M.getL_more _ _ _ _ (by omega) (by omega)]
        exact hg

theorem or128 (x : Int) (h0 : 0 ≤ x) (h1 : x ≤ 127) : bits .or .u8 x 128 = x + 128 := by
  obtain ⟨n, rfl⟩ := Int.eq_ofNat_of_zero_le h0
  have hn : n < 128 := by omega
  have e := Nat.two_pow_add_eq_or_of_lt (i := 7) (by simpa using hn) 1
  have e1 : (BitVec.ofInt 8 (n : Int)).toNat = n := by
    rw [BitVec.ofInt_natCast, BitVec.toNat_ofNat]; exact Nat.mod_eq_of_lt (by omega)
  show IntKind.u8.wrap ((BitVec.ofInt 8 (n : Int) ||| BitVec.ofInt 8 128).toNat : Int) = _
  have e2 : (BitVec.ofInt 8 128).toNat = 128 := by decide
  rw [BitVec.toNat_or, e1, e2, Nat.or_comm, IntKind.wrap_u8]
  have e3 : 128 ||| n = 128 + n := by simpa using e.symm
  rw [e3]
  omega

theorem setLast {w : World} {B g c : Nat} {pre : List Int} {x y : Int} (h : w.ownsInts B 5 .u8 (.slice (some ⟨g, 0, none⟩) (pre ++ [x]).length c) (pre ++ [x])) (hy : 0 ≤ y ∧ y ≤ 255) :
    w.cell? ⟨g, pre.length, none⟩ = some (.int .u8 x) ∧ w.frozen? ⟨g, pre.length, none⟩ = false ∧ (w.setCell ⟨g, pre.length, none⟩ (.int .u8 y)).ownsInts B 5 .u8 (.slice (some ⟨g, 0, none⟩) (pre ++ [x]).length c) (pre ++ [y]) ∧ w.grownBy (w.setCell ⟨g, pre.length, none⟩ (.int .u8 y)) (some g) := by
  have h1 := h.1.cellAt pre.length (by simp)
  have h2 := h.1.frozenAt pre.length
  obtain ⟨h3, h4⟩ := h.1.stored pre.length (.int .u8 y)
  refine ⟨by rw [h1]; simp, h2, ⟨?_, fun z hz => ?_⟩, h4⟩
  · have e1 : (pre ++ [y]).length = (pre ++ [x]).length := by simp
    have e2 : ((pre ++ [x]).map (Value.int .u8)).set pre.length (.int .u8 y) = (pre ++ [y]).map (Value.int .u8) := by
      rw [List.map_append, List.map_append]
      rw [List.set_append_right _ _ (by simp)]
      simp
    rw [e1, ← e2]
    exact h3
  · rcases List.mem_append.1 hz with hz | hz
    · exact h.2 z (List.mem_append.2 (Or.inl hz))
    · simp at hz; subst hz; exact wf_u8 hy

set_option maxRecDepth 100000 in
set_option maxHeartbeats 2000000 in
theorem walk (n : Nat) (hn : n < 18446744073709551616) (w : World) :
    Calls Try.prog 3 #[.int .u64 n] w fun e w' => e = .returned (.bool true) ∧ Below w.heap.size w w' := by
  go_enter Try.func3, Try.ntmps3
  go_wp2_with fail
  refine (begun_true _).mono ?_
  rintro e w1 ⟨rfl, hb1⟩
  have H1 := hide hb1
  clear hb1
  go_wp2_with fail
  refine (put_nil n _ hn).mono ?_
  rintro e w2 ⟨a2, k, c2, L, rfl, hbs, HL, hk1, hk10, hb2⟩
  have H2 := hide (H1.out.trans (hb2.mono H1.out.size))
  have HK : Hid (k = (M.numB 9 n).length) := by rw [← HL.out]; exact hbs.1.symm
  have HB := hide hbs
  clear hb2 hbs
  go_wp2
  go_loop [5, 6] (fun c m => ∃ (f q j : Nat), m = .int .u64 q ∧ c = .int .i64 j ∧ Hid (q < 2 ^ (7 * f) * 128) ∧ q < 18446744073709551616 ∧ Hid (j + rest f q = k) ∧ j ≤ 10) (fun _ m => (intOf m).toNat)
  case atStart => exact ⟨8, n / 128, 1, by go_num, rfl, start_lt n hn, by omega, by rw [HK.out]; exact rest_start n, by omega⟩
  case round =>
    obtain ⟨f, q, j, rfl, rfl, HQ, hq, HR, hj⟩ := hrel
    by_cases hp : 0 < q
    · obtain ⟨f', hr, hf'⟩ := rest_step f q hp HQ.out
      have HR' : Hid ((j + 1) + rest f' (q / 128) = k) := by show _ = _; have := HR.out; omega
      have hj' : j + 1 ≤ 10 := by have := HR'.out; omega
      have HF := hide hf'
      clear hr hf'
      go_wp2
      go_round
      case rel => exact ⟨f', q / 128, j + 1, by go_num, by go_num, HF, by omega, HR', hj'⟩
      case measure => simp [intOf]; omega
    · have hjk : j = k := by have := HR.out; unfold rest at this; rw [if_pos (by omega)] at this; omega
      subst hjk
      obtain ⟨pre, x, eL, hx0, hx1, hget⟩ := last_byte 9 n 0 0 (all_lt n hn) rfl
      have hjp : j = pre.length + 1 := by rw [HK.out, eL]; simp
      subst hjp
      have HE : Hid (L = pre ++ [x]) := by rw [← eL]; exact HL
      have HG := hide hget
      have hor := or128 x hx0 hx1
      have HBL := HB.out
      rw [HE.out] at HBL
      have hpl : pre.length ≤ 9 := by omega
      clear eL hget
      go_wp2_with (at_builtin; refine wpList_app rfl (.const (.slice none 0 0)) (.tmp 32) rfl w.heap.size _ [] rfl (World.ownsInts_nil _ _ _ _) a2 _ c2 (pre ++ [x]) rfl HBL (by simp; omega) H2.out.size ?_)
      intro v3 w3 hown3 hg3 _
      have hb3 := below_app (World.ownsInts_nil w2 w.heap.size 5 .u8) hg3 H2.out.size
      obtain ⟨g3, c3, rfl, hg3w, _⟩ := owns_shape hown3 (by simp)
      obtain ⟨d0, d1, d2, d3⟩ := setLast (y := x + 128) hown3 (by omega)
      have e1 : (pre ++ [x]).length = pre.length + 1 := by simp
      rw [e1] at d2 hown3 ⊢
      have H3 := hide ((H2.out.trans hb3).trans (grown_below d3 hg3w (Nat.le_trans H2.out.size hb3.size)))
      have D2 := hide d2
      clear d2 d3 hb3 hg3 hown3 HBL
      go_wp2_with (at_builtin; refine wpList_app rfl (.tmp 42) (.tmp 43) rfl w.heap.size _ (pre ++ [x + 128]) rfl (owns_alloc D2.out _) (some ⟨w3.heap.size, 0, none⟩) 1 1 [0] rfl ?_ (by simp; omega) ?_ ?_)
      · have := Bs.one (w3.setCell ⟨g3, pre.length, none⟩ (.int .u8 (x + 128))) 0 (by omega)
        simpa using this
      · have := H3.out.size
        simp at this ⊢
        omega
      · intro v4 w4 hown4 hg4 _
        have hb4 : Below w.heap.size w w4 := (H3.out.alloc H3.out.size _).trans (below_app (owns_alloc D2.out _) hg4 (by have := H3.out.size; simp at this ⊢; omega))
        have H4 := hide hb4
        obtain ⟨g4, c4, rfl, _, hbs4⟩ := owns_shape hown4 (by simp)
        have hG := get_any _ _ _ _ _ hbs4
        have eG : M.getL 0 0 (pre ++ [x + 128, 0]) = (0, 0, 1) := by have := HG.out; simpa using this
        rw [eG] at hG
        have HGet := hide hG
        obtain ⟨N4, HN4⟩ : ∃ N, Hid (N = (pre ++ [x + 128, 0]).length) := ⟨_, rfl⟩
        rw [← HN4.out] at HGet ⊢
        clear hG eG hbs4 hown4 hg4 hb4 D2 d0 d1
        go_wp2_with fail
        refine HGet.out.mono ?_
        rintro e w5 ⟨rfl, rfl⟩
        go_wp2
        go_ret
        exact ⟨rfl, H4.out⟩

set_option maxRecDepth 100000 in
theorem lifted (os : Os) (started : os.Started) (H : Type) (enc : TypeId × Value → H) :
    ReturnsInHanded {} Try.checked os 3 .any (Rows.numShortSpec.pre6 enc Try.prog Try.f3 Rows.numShortRow.domain false) (Rows.numShortSpec.post enc Try.prog Try.f3 false true false false) := by
  refine returnsInHanded_of_change (C := Try.checked) own started (by kernel_rfl) Try.func3
    (ChangeSpec.witness6 (enc := enc) (C := Try.checked) false ⟨#[], #[.int .u64 0], []⟩ 8 (by kernel_rfl) (by kernel_rfl) (by kernel_rfl) (by kernel_rfl)) ?_
  intro W base args ds gs before hval0 hW hcnd _
  have hval : ∀ (j : Nat) t v, Try.f3.params[j]? = some t → args[j]? = some v → Value.okWide Try.prog W .any base t v := hval0
  have hW' := hW
  obtain ⟨p, q, hA0, hV, rfl, hfz, hnd⟩ := hW
  have hA : DataW.TrodAll enc Try.prog W 0 (fun _ => true) true Try.f3.params.toList args.toList ds p := hA0
  rw [Try.params3] at hA hval
  obtain ⟨v0, vs0, d0, ds0, p0, q0, hargs, rfl, rfl, h0, r0⟩ := trodAll_cons hA
  obtain ⟨rfl, rfl, rfl⟩ := trodAll_nil r0
  obtain rfl : args = #[v0] := by cases args; simp_all
  obtain ⟨rfl, rfl⟩ := trodVars_none hV
  obtain ⟨a0, rfl, rfl, rfl, w0⟩ := open_int Try.underlying22 (hval 0 22 v0 rfl rfl) h0
  clear hA0 hval0
  have hr : 0 ≤ a0 ∧ a0 ≤ 18446744073709551615 := by have := w0; simp [Lit.wf] at this; exact this
  obtain ⟨n, rfl⟩ := Int.eq_ofNat_of_zero_le hr.1
  refine (walk n (by omega) W).mono fun e W' ⟨he, bel⟩ => ?_
  subst he
  exact ⟨_, rfl, _, _, _, [], _, [], hW', trodAll_mk1 (shut_bool Try.underlying4 _), (trodAll_cons_mk (shut_int Try.underlying22 w0) trodAll_mk0), rfl, bel.frame _, fun h => by cases h⟩

theorem over : Rows.numShortRow.holds Try.pinned (OpenSpec.ofChange Rows.numShortSpec) :=
  OpenClaim.holds_of_wide 3 Try.f3 rfl rfl rfl rfl rfl rfl rfl ⟨rfl, rfl, rfl, rfl, rfl⟩ rfl rfl rfl rfl rfl (by kernel_rfl) Try.func3 (by kernel_rfl)
    (of_decide_eq_true (by kernel_rfl)) (by unfold Func.isWrapper; first | (rw [if_pos (by decide +kernel)]; kernel_rfl) | (rw [if_neg (by decide +kernel)]; exact ⟨rfl, rfl⟩))
    (fun os started H enc _ => lifted os started H enc)

theorem proved : Rows.NumShortSaid := over
#print axioms proved
end Go.Proofs.Ytjdbkmjhjcmoaaa.numShort
