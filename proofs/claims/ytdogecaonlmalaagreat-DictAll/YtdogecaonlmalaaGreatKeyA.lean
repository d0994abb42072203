/- The library's slices.AppendSeq, Collect and SortedFunc of keys of state. -/
import Derived.Test.YtdogecaonlmalaaGreatKeyR
import Derived.Shelf.SlIter.Collect
import Derived.RangeFuncNested
import Derived.RangeFuncBox
namespace Go.Proofs.YtdogecaonlmalaaGreat
open Go.RowKit Go.Sort Go.Shelf

def k3Obj (x : K3) : Obj := .cells #[.int .i64 x.g, .int .i64 x.n, .int .i64 x.i] 28 (0, 0)

theorem k3_own (B Bx : Nat) (x : K3) : OwnFrom B (fun (_ : Unit) W => W.heap[Bx]? = some (k3Obj x)) := by
  intro s W W' row h hg hr
  rw [hg.block Bx (lt_of_heap h) (fun e => by
    obtain ⟨_, o, ho, hc⟩ := hr Bx e.symm
    rw [h] at ho; cases ho; cases hc)]
  exact h

set_option maxRecDepth 100000 in
set_option maxHeartbeats 2000000 in
/-- What an iterator over keys gives, put into a row of its own. -/
theorem appendSeqK (n : Nat) (hn : 3 ≤ n) (gf : Nat) (lb : Array Value) (eg : ∀ args w, (callFunc gf args).run Tryz.prog w = .ok (.enter gf args) w) (S Sp : List K3 → Prop) (N : Nat) (hN : N ≤ 1000000) (w : World)
    (hseq : SeqStopsK Fence.wide (n - 1) Tryz.prog gf lb (fun x : K3 => #[k3E x]) KeepsWalks S Sp N w) :
    CallsIn Fence.wide n Tryz.prog 113 #[.slice none 0 0, .func (.func gf) #[] lb] w fun e w' => ∃ v ks, e = .returned v ∧ S ks ∧ OwnK w' w.heap.size v ks ∧ Below w.heap.size w w' := by
  have h1 : 1 ≤ n := by omega
  obtain ⟨i0, hi, hz0, hz1, hz2⟩ := info_parts infoK
  refine callsIn_of_wp_marks Tryz.func113 rfl trivial ?_ rfl
  simp only [Tryz.ntmps113, List.size_toArray, List.length_cons, List.length_nil, Nat.reduceAdd, Nat.reduceSub, Array.replicate_succ, Array.replicate_zero, List.push_toArray, List.append_toArray, List.nil_append, List.cons_append]
  gi_wp2
  have hbx := Boxed.new w 37 (.slice none 0 0)
  have hB0 : Below w.heap.size w (w.alloc (.cells #[.slice none 0 0] 37)) := (Below.refl _ w).alloc (Nat.le_refl _) _
  have hsz : (w.alloc (.cells #[.slice none 0 0] 37)).heap.size = w.heap.size + 1 := by simp
  generalize w.alloc (.cells #[.slice none 0 0] 37) = W0 at *
  refine wpIn_rangeFunc_ownH rfl h1 (gf := gf) (lb := lb) rfl trivial eg hseq walksK_t walksK_b hB0 (fun _ => rfl)
    (fun pre W => (∃ v, Boxed W w.heap.size 37 v ∧ W.ownsRow w.heap.size 28 3 v pre.length (pre.flatMap k3C) ∧ True) ∧ Below w.heap.size w W)
    (fun _ _ _ => False)
    (OwnFrom.and (Own.from (holdsRow_own w.heap.size w.heap.size 37 28 3 (fun pre : List K3 => pre.length) (fun pre => pre.flatMap k3C) (fun _ _ => True)) _) (ownFrom_below (Nat.le_refl _) (by omega)))
    (fun _ _ _ _ _ hs _ _ => hs)
    ⟨⟨_, hbx, World.ownsRow_nil _ _ _ _, trivial⟩, hB0⟩
    (fun x a' W => ∃ Bx, W.heap[Bx]? = some (k3Obj x) ∧ a' = { tmps := #[.slice none 0 0, .func (.func gf) #[] lb, .pointer (some ⟨w.heap.size, 0, none⟩), undef, .slice none 0 0, .pointer (some ⟨Bx, 0, none⟩), .func (.func gf) #[] lb, k3E x, undef, undef, undef, undef, undef], defers := [] })
    (fun x a' _ X Y row hs hg hr => by obtain ⟨Bx, h1, h2⟩ := hs; exact ⟨Bx, k3_own _ Bx x () X Y row h1 hg hr, h2⟩)
    ?assign ?body ?done ?stop
  case assign =>
    rintro l pre x W K ⟨⟨v, hv, hrow, _⟩, hB⟩ hK
    unfold k3E
    gi_wp2_with gi_round_op_a
    exact hK _ _ ((KeepsOthers.alloc _ _).from _) (KeepsWalks.alloc _ _) ⟨⟨v, hv.alloc _, hrow.alloc _, trivial⟩, hB.alloc hB.size _⟩ ⟨W.heap.size, World.alloc_heap_new W _, rfl⟩
  case body =>
    rintro l pre x a' W hl ⟨r, hr⟩ ⟨⟨v, hv, hrow, _⟩, hB⟩ ⟨Bx, hX, rfl⟩ hlt
    obtain ⟨x0, x1, x2⟩ := cells_three hX
    have hc0 := hv.cell
    have hf0 := hv.frozen
    have hBw := hB.size
    have hcl : ∀ j u, (k3C x)[j]? = some u → (W.alloc (.cells #[.int .i64 x.g, .int .i64 x.n, .int .i64 x.i] 28)).cell? ((⟨W.heap.size, 0, none⟩ : Addr).add j) = some u := by
      intro j u hj
      obtain ⟨y0, y1, y2⟩ := cells_three (heap_alloc_new W (.cells #[.int .i64 x.g, .int .i64 x.n, .int .i64 x.i] 28))
      rw [Go.Proofs.YtdogecaonlmalaaGreat.add_none]
      unfold k3C at hj
      match j, hj with
      | 0, hj => simp at hj; subst hj; exact y0
      | 1, hj => simp at hj; subst hj; exact y1
      | 2, hj => simp at hj; subst hj; exact y2
      | j + 3, hj => simp at hj
    have hoc : ∀ u ∈ k3C x, u.oneCell' = true := by
      intro u hu
      simp [k3C] at hu
      rcases hu with rfl | rfl | rfl <;> rfl
    unfold k3E
    gi_wp2_with (first
      | (gi_at_builtin; refine wpListIn_append_own _ rfl _ _ 37 rfl w.heap.size 28 i0 _ 3 24 Tryz.underlying37 hi hz0 hz1 hz2 rfl (by decide) v pre.length (pre.flatMap k3C) rfl (hrow.alloc _) ⟨W.heap.size, 0, none⟩ 1 1 (k3C x) rfl rfl hcl hoc (by simp only [maxLen]; omega) (by omega) (by simp; omega) ?_
         intro v' w1 hown' hgrow _
         obtain ⟨g', cap', rfl⟩ := ownsRow_succ hown'
         obtain ⟨hv1, hv2, hr2, hk2, hb2⟩ := hv.appended (by decide) hrow hBw (Nat.le_refl _) hown' hgrow
         have hc1 := hv1.cell
         have hf1 := hv1.frozen)
      | gi_round_op_a)
    refine ⟨hk2.from _, hk2.walks, ⟨⟨_, hv2, ?_, trivial⟩, hB.trans hb2⟩⟩
    rw [List.length_append, List.flatMap_append]
    simpa using hr2
  case done =>
    rintro D ks W hD hS ⟨⟨v, hv, hrow, _⟩, hB⟩ hK
    have hc0 := hv.cell
    gi_wp2
    refine ⟨by simp, .inl ⟨_, _, rfl, run_takeDeferred hK, ?_⟩⟩
    exact ⟨_, results_tmp rfl _ _ _, v, ks, rfl, hS, ownsRow_putObj hrow _ hK rfl, hB.trans (belowK_b (w := w) (Nat.le_refl _) W D _ _ (by omega) hK rfl rfl)⟩
  case stop =>
    rintro D c pre W hD _ h _
    exact h.elim

set_option maxRecDepth 100000 in
theorem collectK (gf : Nat) (lb : Array Value) (eg : ∀ args w, (callFunc gf args).run Tryz.prog w = .ok (.enter gf args) w) (S Sp : List K3 → Prop) (N : Nat) (hN : N ≤ 1000000) (w : World)
    (hseq : SeqStopsK Fence.wide 4 Tryz.prog gf lb (fun x : K3 => #[k3E x]) KeepsWalks S Sp N w) :
    Calls Tryz.prog 76 #[.func (.func gf) #[] lb] w fun e w' => ∃ v ks, e = .returned v ∧ S ks ∧ OwnK w' w.heap.size v ks ∧ Below w.heap.size w w' := by
  have HA := hide ((callsIn_wide (n := 5)).1 (appendSeqK 5 (by omega) gf lb eg S Sp N hN w hseq))
  clear hseq
  go_enter Tryz.func76, Tryz.ntmps76
  go_wp2_with fail
  refine HA.out.mono ?_
  rintro e w1 ⟨v, ks, rfl, k1, k2, k3⟩
  have H1 := hide k1
  have H2 := hide k2
  have H3 := hide k3
  clear k1 k2 k3 HA
  go_wp2
  go_ret
  exact ⟨v, ks, rfl, H1.out, H2.out, H3.out⟩

theorem OwnK.lt {w : World} {B : Nat} {v : Value} {ks : List K3} (h : OwnK w B v ks) : ∀ k, v.ownBlock = some k → B ≤ k ∧ k < w.heap.size := World.ownsRow.lt h

set_option maxRecDepth 100000 in
/-- slices.SortedFunc of what an iterator over keys gives, by package keys' order. -/
theorem sortedFuncK (gf : Nat) (lb : Array Value) (eg : ∀ args w, (callFunc gf args).run Tryz.prog w = .ok (.enter gf args) w) (S Sp : List K3 → Prop) (N : Nat) (hN : N ≤ 1000000) (hS : ∀ ks, S ks → ks.length ≤ 1000000) (w : World)
    (hseq : SeqStopsK Fence.wide 4 Tryz.prog gf lb (fun x : K3 => #[k3E x]) KeepsWalks S Sp N w) :
    Calls Tryz.prog 47 #[.func (.func gf) #[] lb, .func (.func 49) #[] #[]] w fun e w' => ∃ v ks, e = .returned v ∧ S ks ∧ OwnK w' w.heap.size v (sortK ks) ∧ Below w.heap.size w w' := by
  have HC := hide (collectK gf lb eg S Sp N hN w hseq)
  have HS := hide hS
  clear hseq hS
  go_enter Tryz.func47, Tryz.ntmps47
  go_wp2_with fail
  refine HC.out.mono ?_
  rintro e w1 ⟨v, ks, rfl, k1, k2, k3⟩
  have H1 := hide k1
  have H2 := hide k2
  have H3 := hide k3
  have HF := hide (sortFuncK w.heap.size v ks w1 k2 (HS.out ks k1))
  clear k1 k2 k3 HC
  go_wp2_with fail
  refine HF.out.mono ?_
  rintro e w2 ⟨rfl, j1, j2⟩
  have H4 := hide j1
  have H5 := hide (H3.out.grown j2 H3.out.size (fun k hk => (H2.out.lt k hk).1))
  clear j1 j2 HF
  go_wp2
  go_ret
  exact ⟨v, ks, rfl, H1.out, H4.out, H5.out⟩

/-- Keys by their order, each once. -/
def RiseK (ks : List K3) : Prop := ks.Pairwise (fun x y => k3Less x y = true)

theorem sortK_perm (ks : List K3) : (sortK ks).Perm ks := List.mergeSort_perm _ _
theorem sortK_rise (ks : List K3) (hn : ks.Nodup) : RiseK (sortK ks) := by
  have hp := List.pairwise_mergeSort (le := fun x y : K3 => !k3Less y x) (fun a b c h1 h2 => by
    have hs := k3_swo
    simp only [Bool.not_eq_true'] at *
    have := hs.ntrans c b a (by rw [k3Lt]; exact h2) (by rw [k3Lt]; exact h1)
    rwa [k3Lt] at this) (fun a b => by
    cases h : k3Less b a with
    | false => simp
    | true =>
      have : k3Less a b = false := lessK_asym _ _ h
      simp [this]) ks
  have hnd : (sortK ks).Nodup := (sortK_perm ks).nodup_iff.2 hn
  refine (hp.and hnd).imp ?_
  rintro a b ⟨h1, h2⟩
  cases h : k3Less a b with
  | true => rfl
  | false =>
    simp only [Bool.not_eq_true'] at h1
    exact absurd (k3_total a b h h1) h2
end Go.Proofs.YtdogecaonlmalaaGreat
