/- The walk of the statement ValueAll: values at any keys, for all steps. -/
import Derived.Test.YtkchfbigkecodaaGreatRisK
import Derived.Test.YtkchfbigkecodaaGreatKopR
import Derived.Test.YtkchfbigkecodaaGreatBeg7
import Derived.Test.YtkchfbigkecodaaGreatLawA
import Derived.Deep.LoopGhost
import Derived.Deep.CutBlock
namespace Go.Proofs.YtkchfbigkecodaaGreat.valueAll
open Go.ChangeShapes Go.WideShapes Go.ChangeAt Go.RowKit Go.MapKept Go.ChangeMaps

theorem Mp.len {w : World} {r : Nat} {l : List (Ent K3)} {c : Nat} (h : Mp k3E w r l c) (ty : TypeId) : (Builtin.len_ #[26] ty #[.map (some r)]).run Tryz.prog w = .ok (.int .i64 (l.length : Int)) w := by
  have h3 := Go.MapKept.run_getObj_map (P := Tryz.prog) h.heap
  simp [Builtin.len_, run_underlying undV, h3, goInt]

/-- The values, and the law's own map; fv and fm are what they hold. -/
structure VA (w W : World) (gv r : Nat) (fv fm : K3 → Option Int) (l : List (Ent K3)) (c N : Nat) (A : Nat → Prop) : Prop where
  v : VlS W A gv fv N
  m : Mp k3E W r l c
  at' : ∀ b, atE l b = (fm b).map (Value.int .i64)
  sub : ∀ k, A k → w.heap.size ≤ k ∧ k < W.heap.size ∧ k ≠ r
  rw : w.heap.size ≤ r
  bel : Below w.heap.size w W
section
variable {w W : World} {gv r c N : Nat} {fv fm : K3 → Option Int} {l : List (Ent K3)} {A : Nat → Prop}
theorem VA.later {W' : World} (h : VA w W gv r fv fm l c N A) (hb : Below W.heap.size W W') : VA w W' gv r fv fm l c N A :=
  ⟨h.v.later hb, h.m.at (hb.block _ h.m.lt), h.at', fun k hk => ⟨(h.sub k hk).1, Nat.lt_of_lt_of_le (h.sub k hk).2.1 hb.size, (h.sub k hk).2.2⟩, h.rw, h.bel.trans (hb.mono h.bel.size)⟩
theorem VA.look (h : VA w W gv r fv fm l c N A) (k : K3) : (Instr.lookup 26 (.map (some r)) (k3E k) true).run Tryz.prog W = .ok (.tuple #[.int .i64 ((fm k).getD 0), .bool (fm k).isSome]) W := by
  have := h.m.look k3Keyd undV (zeroI W) k true
  rw [h.at' k] at this
  rw [this]
  cases fm k <;> rfl
theorem VA.put (h : VA w W gv r fv fm l c N A) (k : K3) (n : Int) : ∃ W2 l' c', (Instr.mapUpdate 26 (.map (some r)) (k3E k) (.int .i64 n)).run Tryz.prog W = .ok () W2 ∧ VA w W2 gv r fv (updK fm k (some n)) l' c' N A ∧ Tch (fun j => j = r) W W2 := by
  obtain ⟨W2, l', c', h1, h2, h3, h4, _⟩ := h.m.upd2 k3Keyd undV k (.int .i64 n)
  have ht := (Tch.of h3).mono (S' := fun j => j = r) (fun _ _ e => Option.some.inj e)
  refine ⟨W2, l', c', h1, ⟨h.v.tch ht (fun j hj e => (h.sub j hj).2.2 e), h2, fun b => ?_, fun j hj => ⟨(h.sub j hj).1, Nat.lt_of_lt_of_le (h.sub j hj).2.1 ht.size, (h.sub j hj).2.2⟩, h.rw, h.bel.trans (ht.below (fun j hj e => by have := h.rw; omega) h.bel.size)⟩, ht⟩
  rw [h4 b, updK]
  by_cases e : b = k
  · rw [if_pos e, if_pos e]; rfl
  · rw [if_neg e, if_neg e]; exact h.at' b
theorem VA.del (h : VA w W gv r fv fm l c N A) (k : K3) : ∃ W2, (∀ ty, (Builtin.delete_ #[26, 28] ty #[.map (some r), k3E k]).run Tryz.prog W = .ok (.tuple #[]) W2) ∧ VA w W2 gv r fv (updK fm k none) (delE l k) c N A ∧ Tch (fun j => j = r) W W2 := by
  obtain ⟨W2, h1, h2, h3⟩ := h.m.del k3Keyd undV 0 k
  have ht := (Tch.of h3).mono (S' := fun j => j = r) (fun _ _ e => Option.some.inj e)
  refine ⟨W2, fun _ => h1, ⟨h.v.tch ht (fun j hj e => (h.sub j hj).2.2 e), h2, fun b => ?_, fun j hj => ⟨(h.sub j hj).1, Nat.lt_of_lt_of_le (h.sub j hj).2.1 ht.size, (h.sub j hj).2.2⟩, h.rw, h.bel.trans (ht.below (fun j hj e => by have := h.rw; omega) h.bel.size)⟩, ht⟩
  rw [atE_delE, updK]
  by_cases e : b = k
  · rw [if_pos e, if_pos e]; rfl
  · rw [if_neg e, if_neg e]; exact h.at' b
theorem VA.set (h : VA w W gv r fv fm l c N A) (k : K3) (n : Int) :
    Calls Tryz.prog 17 #[.pointer (some ⟨gv, 0, none⟩), k3E k, .int .i64 n] W fun e w' => e = .returned (.tuple #[]) ∧ (∃ A', VA w w' gv r (updK fv k (some n)) fm l c (N + 1) A') ∧ Tch (fun j => A j ∨ W.heap.size ≤ j) W w' := by
  refine (valueSet (fun j => A j ∨ W.heap.size ≤ j) gv N fv k n W (h.v.sub (fun j hj _ => Or.inl hj)) (fun j hj => Or.inr hj)).mono ?_
  rintro e w' ⟨r1, r2, r3⟩
  have hr : ¬ (A r ∨ W.heap.size ≤ r) := by
    rintro (e | e)
    · exact (h.sub r e).2.2 rfl
    · have := h.m.lt; omega
  refine ⟨r1, ⟨fun j => (A j ∨ W.heap.size ≤ j) ∧ j < w'.heap.size, r2.sub (fun j hj hl => ⟨hj, hl⟩), h.m.at (r3.block _ h.m.lt hr), h.at', fun j hj => ?_, h.rw, h.bel.trans (r3.below (fun j hj e => ?_) h.bel.size)⟩, r3⟩
  · refine ⟨?_, hj.2, fun e => hr (e ▸ hj.1)⟩
    rcases hj.1 with e | e
    · exact (h.sub j e).1
    · exact Nat.le_trans h.bel.size e
  · rcases e with e | e
    · have := (h.sub j e).1; omega
    · have := h.bel.size; omega
theorem VA.unset (h : VA w W gv r fv fm l c N A) (k : K3) :
    Calls Tryz.prog 18 #[.pointer (some ⟨gv, 0, none⟩), k3E k] W fun e w' => e = .returned (.bool (fv k).isSome) ∧ VA w w' gv r (updK fv k none) fm l c N A ∧ Tch A W w' := by
  refine (valueUnset A gv N fv k W h.v).mono ?_
  rintro e w' ⟨r1, r2, r3⟩
  exact ⟨r1, ⟨r2, h.m.at (r3.block _ h.m.lt (fun e => (h.sub r e).2.2 rfl)), h.at', fun j hj => ⟨(h.sub j hj).1, Nat.lt_of_lt_of_le (h.sub j hj).2.1 r3.size, (h.sub j hj).2.2⟩, h.rw, h.bel.trans (r3.below (fun j hj e => by have := (h.sub j e).1; omega) h.bel.size)⟩, r3⟩
/-- As many keys are told as the map has. -/
theorem VA.count (h : VA w W gv r fv fv l c N A) {ks : List K3} (hk : ∀ k, k ∈ ks ↔ fv k ≠ none) (hr : RiseK ks) : ks.length = l.length := by
  have hmem : ∀ k, k ∈ l.map Ent.k ↔ fv k ≠ none := fun k => by
    rw [atE_key, h.at' k]
    cases fv k <;> simp
  have h1 := nodup_le (a := ks) (b := l.map Ent.k) hr.nodup (fun k hm => (hmem k).2 ((hk k).1 hm))
  have h2 := nodup_le (a := l.map Ent.k) (b := ks) h.m.keys (fun k hm => (hk k).2 ((hmem k).1 hm))
  rw [List.length_map] at h1 h2
  omega
end

set_option maxRecDepth 100000 in
set_option maxHeartbeats 8000000 in
theorem walk (a0 : Option Addr) (n0 c0 : Nat) (d0 : List Kop) (w : World) (h0 : Kos w a0 n0 d0) (_f0 : ∀ d ∈ d0, wfKo w d) (_l0 : n0 ≤ c0) (_m0 : c0 ≤ 9223372036854775807) :
    Calls Tryz.prog 3 #[.slice a0 n0 c0] w fun e w' => e = .returned (.bool true) ∧ Below w.heap.size w w' := by
  have hmm := @run_makeMap Tryz.prog
  have HK := hide h0
  clear h0 _f0 _m0
  go_enter Tryz.func3, Tryz.ntmps3
  go_wp2_with fail
  refine (begun7_true _).mono ?_
  rintro e w1 ⟨rfl, hb1⟩
  go_wp2_with fail
  refine (valueNew _).mono ?_
  rintro e w2 ⟨rfl, rfl⟩
  have hz : (w1.alloc (vlObj none)).heap.size = w1.heap.size + 1 := by simp
  have HV0 : Hid (∃ f l c N A, N ≤ 0 ∧ VA w ((w1.alloc (vlObj none)).alloc (.map #[] 0)) w1.heap.size (w1.heap.size + 1) f f l c N A) := by
    have hba := below_alloc w1 (vlObj none) w1.heap.size (Nat.le_refl _)
    have hbb := below_alloc (w1.alloc (vlObj none)) (.map #[] 0) _ (Nat.le_refl _)
    have hm := Mp.new (E := k3E) (w1.alloc (vlObj none))
    rw [hz] at hm
    refine ⟨fun _ => none, [], 0, 0, fun k => k = w1.heap.size, Nat.le_refl _, (VlS.new w1 (fun k => k = w1.heap.size) rfl).later hbb, hm, fun b => rfl, fun k hk => ?_, by have := hb1.size; omega, (hb1.trans (hba.mono hb1.size)).trans (hbb.mono (by rw [hz]; have := hb1.size; omega))⟩
    have := hb1.size
    subst hk
    exact ⟨this, by simp; omega, by omega⟩
  clear hb1
  go_wp2_with fail
  clear hz hmm
  generalize (w1.alloc (vlObj none)).alloc (.map #[] 0) = W2 at *
  generalize w1.heap.size = gv at *
  generalize gv + 1 = r at *
  go_loopg [6] 50 (fun gm i wr => ∃ j : Nat, gm = 50 - j ∧ j ≤ n0 ∧ j ≤ 50 ∧ i = .int .i64 j ∧ Hid (∃ f l c N A, N ≤ j ∧ VA w wr gv r f f l c N A))
  case atStart => exact ⟨0, rfl, by omega, by omega, rfl, HV0⟩
  case round =>
    clear HV0
    obtain ⟨j, rfl, hj, hj50, rfl, HV⟩ := hrel
    by_cases hin : j < n0 ∧ j < 50
    · obtain ⟨hlt, hlt50⟩ := hin
      obtain ⟨d, hd⟩ : ∃ d, d0[j]? = some d := ⟨_, List.getElem?_eq_getElem (by rw [HK.out.1]; exact hlt)⟩
      obtain ⟨f, l, c, N, A, hN, hV⟩ := HV.out
      obtain ⟨b, o, rfl, hc⟩ := (HK.out.later hV.bel (Nat.le_refl _)).2 (by omega)
      obtain ⟨z0, z1, z2, z3, z4, z5, z6⟩ := hc j d hd
      have HIN : Hid (∀ W, Below w.heap.size w W → W.cell? ⟨b, o + j * 7, none⟩ = some (.int .i64 d.c)) := fun W hW => by
        obtain ⟨b', o', e, hc'⟩ := (HK.out.later hW (Nat.le_refl _)).2 (by omega)
        cases e
        exact (hc' j d hd).1
      have HIN5 : Hid (∀ W, Below w.heap.size w W → W.cell? ⟨b, o + j * 7 + 5, none⟩ = some (.int .i64 d.v)) := fun W hW => by
        obtain ⟨b', o', e, hc'⟩ := (HK.out.later hW (Nat.le_refl _)).2 (by omega)
        cases e
        exact (hc' j d hd).2.2.2.2.2.1
      obtain ⟨dc, κ, df, dv, da, dn, dp, dz⟩ := d
      simp only at z0 z1 z2 z3 z4 z5 z6 HIN HIN5
      have hba := below_alloc wr (.cells #[.int .i64 κ.g, .int .i64 κ.n, .int .i64 κ.i] 28) wr.heap.size (Nat.le_refl _)
      have HV1 := hide (hV.later hba)
      have hX1 := heap_alloc_new wr (.cells #[.int .i64 κ.g, .int .i64 κ.n, .int .i64 κ.i] 28)
      have HX1 := hide hX1
      have lk : (Instr.lookup 26 (.map (some r)) (.agg #[.int .i64 κ.g, .int .i64 κ.n, .int .i64 κ.i]) true).run Tryz.prog (wr.alloc (.cells #[.int .i64 κ.g, .int .i64 κ.n, .int .i64 κ.i] 28)) = .ok (.tuple #[.int .i64 ((f κ).getD 0), .bool (f κ).isSome]) (wr.alloc (.cells #[.int .i64 κ.g, .int .i64 κ.n, .int .i64 κ.i] 28)) := HV1.out.look κ
      have z0' := HIN.out _ HV1.out.bel
      have hqA : Hid (∀ k, A k → k ≠ wr.heap.size) := fun k hk e => by have := (hV.sub k hk).2.1; omega
      clear hc hd hV HV hba HK z4 z5 z6 hX1
      obtain ⟨p, hp⟩ : ∃ p, bits BinOp.and IntKind.i64 dc 1 = p := ⟨_, rfl⟩
      by_cases hpar : p = 0
      · have hpb : (p == 0) = true := by simp [hpar]
        have hrq : r ≠ wr.heap.size := by have := HV1.out.m.lt; intro e; subst e; exact absurd HX1.out (by rw [HV1.out.m.heap]; simp)
        have s0d : (wr.alloc (.cells #[.int .i64 κ.g, .int .i64 κ.n, .int .i64 κ.i] 28)).drew.cell? ⟨wr.heap.size, 0, none⟩ = some (.int .i64 κ.g) ∧ (wr.alloc (.cells #[.int .i64 κ.g, .int .i64 κ.n, .int .i64 κ.i] 28)).drew.cell? ⟨wr.heap.size, 1, none⟩ = some (.int .i64 κ.n) ∧ (wr.alloc (.cells #[.int .i64 κ.g, .int .i64 κ.n, .int .i64 κ.i] 28)).drew.cell? ⟨wr.heap.size, 2, none⟩ = some (.int .i64 κ.i) ∧ (wr.alloc (.cells #[.int .i64 κ.g, .int .i64 κ.n, .int .i64 κ.i] 28)).drew.cell? ⟨b, o + j * 7 + 5, none⟩ = some (.int .i64 dv) := by
          obtain ⟨y0, y1, y2⟩ := cells_three HX1.out
          exact ⟨y0, y1, y2, HIN5.out _ HV1.out.bel.drew⟩
        have HS : Hid (Calls Tryz.prog 17 #[.pointer (some ⟨gv, 0, none⟩), .agg #[.int .i64 κ.g, .int .i64 κ.n, .int .i64 κ.i], .int .i64 dv] (wr.alloc (.cells #[.int .i64 κ.g, .int .i64 κ.n, .int .i64 κ.i] 28)).drew fun e w' => e = .returned (.tuple #[]) ∧ Hid ((∃ A', VA w w' gv r (updK f κ (some dv)) f l c (N + 1) A') ∧ w'.heap[wr.heap.size]? = some (.cells #[.int .i64 κ.g, .int .i64 κ.n, .int .i64 κ.i] 28)) ∧ (w'.cell? ⟨wr.heap.size, 0, none⟩ = some (.int .i64 κ.g) ∧ w'.cell? ⟨wr.heap.size, 1, none⟩ = some (.int .i64 κ.n) ∧ w'.cell? ⟨wr.heap.size, 2, none⟩ = some (.int .i64 κ.i) ∧ w'.cell? ⟨b, o + j * 7 + 5, none⟩ = some (.int .i64 dv))) := by
          have hD := (Below.refl (wr.alloc (.cells #[.int .i64 κ.g, .int .i64 κ.n, .int .i64 κ.i] 28)).heap.size (wr.alloc (.cells #[.int .i64 κ.g, .int .i64 κ.n, .int .i64 κ.i] 28))).drew
          refine Calls.mono ((HV1.out.later hD).set κ dv) ?_
          rintro e w' ⟨r1, ⟨A', r2⟩, r3⟩
          have hx := r3.old (g := wr.heap.size) (boxed_old HX1.out hD) (fun e => by
            rcases e with e | e
            · exact hqA.out _ e rfl
            · have := lt_of_heap HX1.out; have h4 : (wr.alloc (.cells #[.int .i64 κ.g, .int .i64 κ.n, .int .i64 κ.i] 28)).heap.size ≤ wr.heap.size := e; omega)
          obtain ⟨y0, y1, y2⟩ := cells_three hx
          exact ⟨r1, ⟨⟨A', r2⟩, hx⟩, y0, y1, y2, HIN5.out w' r2.bel⟩
        have HRQ := hide hrq
        clear hrq
        go_wp2
        go_region_held3 (fun w' => w'.cell? ⟨wr.heap.size, 0, none⟩ = some (.int .i64 κ.g) ∧ w'.cell? ⟨wr.heap.size, 1, none⟩ = some (.int .i64 κ.n) ∧ w'.cell? ⟨wr.heap.size, 2, none⟩ = some (.int .i64 κ.i) ∧ w'.cell? ⟨b, o + j * 7 + 5, none⟩ = some (.int .i64 dv)) (first | with_reducible exact s0d | with_reducible exact s1) ((go_at_call 17; with_reducible refine HS.out.mono ?_; rintro e Wa ⟨rfl, K1, s1⟩))
        all_goals
          obtain ⟨⟨A', hVa⟩, hXa⟩ := K1.out
          have hDa := (Below.refl Wa.heap.size Wa).drew
          obtain ⟨W3, l', c', hup, hV3, hT3⟩ := (hVa.later hDa).put κ dv
          have hX3 := hT3.old (g := wr.heap.size) (boxed_old hXa hDa) (fun e => HRQ.out e.symm)
          have s2d : Wa.drew.cell? ⟨wr.heap.size, 0, none⟩ = some (.int .i64 κ.g) ∧ Wa.drew.cell? ⟨wr.heap.size, 1, none⟩ = some (.int .i64 κ.n) ∧ Wa.drew.cell? ⟨wr.heap.size, 2, none⟩ = some (.int .i64 κ.i) ∧ Wa.drew.cell? ⟨b, o + j * 7 + 5, none⟩ = some (.int .i64 dv) := s1
          have s3 : W3.cell? ⟨wr.heap.size, 0, none⟩ = some (.int .i64 κ.g) ∧ W3.cell? ⟨wr.heap.size, 1, none⟩ = some (.int .i64 κ.n) ∧ W3.cell? ⟨wr.heap.size, 2, none⟩ = some (.int .i64 κ.i) ∧ W3.cell? ⟨b, o + j * 7 + 5, none⟩ = some (.int .i64 dv) := by
            obtain ⟨y0, y1, y2⟩ := cells_three hX3
            exact ⟨y0, y1, y2, HIN5.out W3 hV3.bel⟩
          have HV3 := hide hV3
          have HX3 := hide hX3
          obtain ⟨f', hf'⟩ : ∃ f', updK f κ (some dv) = f' := ⟨_, rfl⟩
          have hfk : f' κ = some dv := by rw [← hf']; simp [updK]
          obtain ⟨N', hN'⟩ : ∃ N', N + 1 = N' := ⟨_, rfl⟩
          rw [hf', hN'] at HV3
          clear hVa hXa hDa hV3 hT3 hX3 K1 HS s0d s1 HV1 HX1 lk z0' hqA HRQ hf'
          unfold k3E at hup
          go_wp2
          go_region_held3 (fun w' => w'.cell? ⟨wr.heap.size, 0, none⟩ = some (.int .i64 κ.g) ∧ w'.cell? ⟨wr.heap.size, 1, none⟩ = some (.int .i64 κ.n) ∧ w'.cell? ⟨wr.heap.size, 2, none⟩ = some (.int .i64 κ.i) ∧ w'.cell? ⟨b, o + j * 7 + 5, none⟩ = some (.int .i64 dv)) (first | with_reducible exact s2d | with_reducible exact s3) (fail)
          all_goals
            clear hup s2d s3 z0 z1 z2 z3 HIN5
            generalize wr.heap.size = qx at *
            have HKY := hide (valueKeys A' gv N' f' W3 HV3.out.v (by omega))
            go_wp2_with fail
            refine HKY.out.mono ?_
            rintro e W4 ⟨vk, ks, rfl, m1, r1, o1, b1⟩
            obtain ⟨pk, qk, rfl⟩ := o1.shape
            have HV4 := hide (HV3.out.later b1)
            have HX4 := hide (boxed_old HX3.out b1)
            have HM1 := hide m1
            have HO1 := hide o1
            have hcnt : (ks.length : Int) = (l'.length : Int) := by have := HV3.out.count m1 r1; omega
            have hkl : ks.length ≤ 1000 := by
              have := HV3.out.v.klen r1.nodup (fun k hk => (m1 k).1 hk)
              omega
            have hln := fun ty => Mp.len HV4.out.m ty
            have HRS := hide (rising_true W3.heap.size pk qk ks W4 o1 r1 (by omega))
            clear m1 r1 o1 b1 HKY HV3 HX3
            go_wp2_with fail
            refine HRS.out.mono ?_
            rintro e W5 ⟨rfl, b5⟩
            have HV5 := hide (HV4.out.later b5)
            have HX5 := hide (boxed_old HX4.out b5)
            have HO5 : Hid (OwnK W5 W3.heap.size (.slice pk ks.length qk) ks) := own_tch (C := k3C) (S := fun _ => False) (Below.tch b5) HO1.out (fun _ _ e => e)
            clear b5 HRS HV4 HX4 HO1 hln hcnt
            go_wp2_with fail
            go_loopw [88] (fun i wz => ∃ t : Nat, t ≤ ks.length ∧ i = .int .i64 t ∧ Hid (Below W5.heap.size W5 wz)) (fun i _ => ks.length - (intOf i).toNat)
            case atStart => exact ⟨0, by omega, rfl, Below.refl _ _⟩
            case round =>
              obtain ⟨t, ht, rfl, HB⟩ := hrel
              by_cases hlt2 : t < ks.length
              · obtain ⟨x, hx⟩ : ∃ x, ks[t]? = some x := ⟨_, List.getElem?_eq_getElem hlt2⟩
                have k1 : OwnK wr _ (.slice pk ks.length qk) ks := own_tch (C := k3C) (S := fun _ => False) (Below.tch HB.out) HO5.out (fun _ _ e => e)
                obtain ⟨g1, rfl, hq1⟩ : ∃ g, pk = some ⟨g, 0, none⟩ ∧ ks.length ≤ qk := by
                  rcases k1.slice with ⟨_, e⟩ | ⟨g, cp, e, h, _⟩
                  · rw [e] at hlt2; simp at hlt2
                  · simp at e; exact ⟨g, e.1, by omega⟩
                obtain ⟨x0, x1, x2⟩ := k1.at hx
                obtain ⟨u, hu⟩ : ∃ u, f' x = some u := by
                  have := (HM1.out x).1 (List.mem_of_getElem? hx)
                  cases h : f' x with
                  | none => exact absurd h this
                  | some u => exact ⟨u, rfl⟩
                have hba := below_alloc wr (.cells #[.int .i64 x.g, .int .i64 x.n, .int .i64 x.i] 28) wr.heap.size (Nat.le_refl _)
                have HB6 := hide (HB.out.trans (hba.mono HB.out.size))
                have HG : Hid (Calls Tryz.prog 21 #[.pointer (some ⟨gv, 0, none⟩), .agg #[.int .i64 x.g, .int .i64 x.n, .int .i64 x.i]] (wr.alloc (.cells #[.int .i64 x.g, .int .i64 x.n, .int .i64 x.i] 28)) fun e w' => e = .returned (.tuple #[.int .i64 u, .bool true]) ∧ Below (wr.alloc (.cells #[.int .i64 x.g, .int .i64 x.n, .int .i64 x.i] 28)).heap.size (wr.alloc (.cells #[.int .i64 x.g, .int .i64 x.n, .int .i64 x.i] 28)) w') := by
                  have := valueGet A' gv N' f' x _ (HV5.out.later HB6.out).v
                  rw [hu] at this
                  exact this
                have HLK : Hid (∀ W, Below W5.heap.size W5 W → (Instr.lookup 26 (.map (some r)) (.agg #[.int .i64 x.g, .int .i64 x.n, .int .i64 x.i]) true).run Tryz.prog W = .ok (.tuple #[.int .i64 u, .bool true]) W) := fun W hW => by
                  have := (HV5.out.later hW).look x
                  rw [hu] at this
                  exact this
                have HX6 := hide (heap_alloc_new wr (.cells #[.int .i64 x.g, .int .i64 x.n, .int .i64 x.i] 28))
                have hlq : t < qk := by omega
                clear k1 hx hu hba HB
                go_wp2_with fail
                generalize wr.alloc (.cells #[.int .i64 x.g, .int .i64 x.n, .int .i64 x.i] 28) = W6 at *
                generalize wr.heap.size = q6 at *
                clear x0 x1 x2
                refine HG.out.mono ?_
                rintro e W7 ⟨rfl, b7⟩
                have HB7 := hide (HB6.out.trans (b7.mono HB6.out.size))
                obtain ⟨x0, x1, x2⟩ := cells_three (boxed_old HX6.out b7)
                have lk := HLK.out W7 HB7.out
                clear b7 HB6 HG HLK HX6
                go_wp2
                exact ⟨⟨t + 1, by omega, by simp, HB7⟩, by simp [intOf]; omega⟩
              · have HV8 := hide (HV5.out.later HB.out)
                have HX8 := hide (boxed_old HX5.out HB.out)
                clear HB HV5 HX5 HO5 HM1
                obtain ⟨x0, x1, x2⟩ := cells_three HX8.out
                have HG : Hid (Calls Tryz.prog 21 #[.pointer (some ⟨gv, 0, none⟩), .agg #[.int .i64 κ.g, .int .i64 κ.n, .int .i64 κ.i]] wr fun e w' => e = .returned (.tuple #[.int .i64 dv, .bool true]) ∧ Below wr.heap.size wr w') := by
                  have := valueGet A' gv N' f' κ wr HV8.out.v
                  rw [hfk] at this
                  exact this
                go_wp2_with fail
                refine HG.out.mono ?_
                rintro e W9 ⟨rfl, b9⟩
                have HV9 := hide (HV8.out.later b9)
                have z0' := HIN.out W9 HV9.out.bel
                clear b9 HV8 HX8 HG HIN x0 x1 x2
                go_wp2
                go_roundg (50 - (j + 1))
                case measure => omega
                case rel => exact ⟨j + 1, rfl, by omega, by omega, by simp, hide ⟨f', l', c', N', A', by omega, HV9.out⟩⟩
      · have hpb : (p == 0) = false := by simp [hpar]
        have hrq : r ≠ wr.heap.size := by have := HV1.out.m.lt; intro e; subst e; exact absurd HX1.out (by rw [HV1.out.m.heap]; simp)
        have HRQ := hide hrq
        obtain ⟨x0, x1, x2⟩ := cells_three HX1.out
        have HU : Hid (Calls Tryz.prog 18 #[.pointer (some ⟨gv, 0, none⟩), .agg #[.int .i64 κ.g, .int .i64 κ.n, .int .i64 κ.i]] (wr.alloc (.cells #[.int .i64 κ.g, .int .i64 κ.n, .int .i64 κ.i] 28)) fun e w' => e = .returned (.bool (f κ).isSome) ∧ Hid (VA w w' gv r (updK f κ none) f l c N A ∧ w'.heap[wr.heap.size]? = some (.cells #[.int .i64 κ.g, .int .i64 κ.n, .int .i64 κ.i] 28))) := by
          refine Calls.mono (HV1.out.unset κ) ?_
          rintro e w' ⟨r1, r2, r3⟩
          exact ⟨r1, r2, r3.old HX1.out (fun e => hqA.out _ e rfl)⟩
        clear hrq HIN5
        go_wp2_with fail
        refine HU.out.mono ?_
        rintro e Wa ⟨rfl, K1⟩
        obtain ⟨W3, hde, hV3, hT3⟩ := K1.out.1.del κ
        have HX3 := hide (hT3.old K1.out.2 (fun e => HRQ.out e.symm))
        clear x0 x1 x2
        obtain ⟨x0, x1, x2⟩ := cells_three K1.out.2
        have HV3 := hide hV3
        obtain ⟨f', hf'⟩ : ∃ f', updK f κ none = f' := ⟨_, rfl⟩
        have hfk : f' κ = none := by rw [← hf']; simp [updK]
        obtain ⟨N', hN'⟩ : ∃ N', N = N' := ⟨_, rfl⟩
        obtain ⟨l', hl'⟩ : ∃ l', delE l κ = l' := ⟨_, rfl⟩
        obtain ⟨c', hc'⟩ : ∃ c', c = c' := ⟨_, rfl⟩
        obtain ⟨A', hA'⟩ : ∃ A', A = A' := ⟨_, rfl⟩
        rw [hf', hN', hl', hc', hA'] at HV3
        clear hV3 hT3 K1 HU HV1 HX1 lk z0' hqA HRQ hf' hl' hc' hA' z0 z1 z2 z3
        unfold k3E at hde
        generalize (f κ).isSome = was at *
        generalize wr.heap.size = qx at *
        have HKY := hide (valueKeys A' gv N' f' W3 HV3.out.v (by omega))
        go_wp2_with fail
        refine HKY.out.mono ?_
        rintro e W4 ⟨vk, ks, rfl, m1, r1, o1, b1⟩
        obtain ⟨pk, qk, rfl⟩ := o1.shape
        have HV4 := hide (HV3.out.later b1)
        have HX4 := hide (boxed_old HX3.out b1)
        have HM1 := hide m1
        have HO1 := hide o1
        have hcnt : (ks.length : Int) = (l'.length : Int) := by have := HV3.out.count m1 r1; omega
        have hkl : ks.length ≤ 1000 := by
          have := HV3.out.v.klen r1.nodup (fun k hk => (m1 k).1 hk)
          omega
        have hln := fun ty => Mp.len HV4.out.m ty
        have HRS := hide (rising_true W3.heap.size pk qk ks W4 o1 r1 (by omega))
        clear m1 r1 o1 b1 HKY HV3 HX3
        go_wp2_with fail
        refine HRS.out.mono ?_
        rintro e W5 ⟨rfl, b5⟩
        have HV5 := hide (HV4.out.later b5)
        have HX5 := hide (boxed_old HX4.out b5)
        have HO5 : Hid (OwnK W5 W3.heap.size (.slice pk ks.length qk) ks) := own_tch (C := k3C) (S := fun _ => False) (Below.tch b5) HO1.out (fun _ _ e => e)
        clear b5 HRS HV4 HX4 HO1 hln hcnt
        go_wp2_with fail
        go_loopw [88] (fun i wz => ∃ t : Nat, t ≤ ks.length ∧ i = .int .i64 t ∧ Hid (Below W5.heap.size W5 wz)) (fun i _ => ks.length - (intOf i).toNat)
        case atStart => exact ⟨0, by omega, rfl, Below.refl _ _⟩
        case round =>
          obtain ⟨t, ht, rfl, HB⟩ := hrel
          by_cases hlt2 : t < ks.length
          · obtain ⟨x, hx⟩ : ∃ x, ks[t]? = some x := ⟨_, List.getElem?_eq_getElem hlt2⟩
            have k1 : OwnK wr _ (.slice pk ks.length qk) ks := own_tch (C := k3C) (S := fun _ => False) (Below.tch HB.out) HO5.out (fun _ _ e => e)
            obtain ⟨g1, rfl, hq1⟩ : ∃ g, pk = some ⟨g, 0, none⟩ ∧ ks.length ≤ qk := by
              rcases k1.slice with ⟨_, e⟩ | ⟨g, cp, e, h, _⟩
              · rw [e] at hlt2; simp at hlt2
              · simp at e; exact ⟨g, e.1, by omega⟩
            obtain ⟨x0, x1, x2⟩ := k1.at hx
            obtain ⟨u, hu⟩ : ∃ u, f' x = some u := by
              have := (HM1.out x).1 (List.mem_of_getElem? hx)
              cases h : f' x with
              | none => exact absurd h this
              | some u => exact ⟨u, rfl⟩
            have hba := below_alloc wr (.cells #[.int .i64 x.g, .int .i64 x.n, .int .i64 x.i] 28) wr.heap.size (Nat.le_refl _)
            have HB6 := hide (HB.out.trans (hba.mono HB.out.size))
            have HG : Hid (Calls Tryz.prog 21 #[.pointer (some ⟨gv, 0, none⟩), .agg #[.int .i64 x.g, .int .i64 x.n, .int .i64 x.i]] (wr.alloc (.cells #[.int .i64 x.g, .int .i64 x.n, .int .i64 x.i] 28)) fun e w' => e = .returned (.tuple #[.int .i64 u, .bool true]) ∧ Below (wr.alloc (.cells #[.int .i64 x.g, .int .i64 x.n, .int .i64 x.i] 28)).heap.size (wr.alloc (.cells #[.int .i64 x.g, .int .i64 x.n, .int .i64 x.i] 28)) w') := by
              have := valueGet A' gv N' f' x _ (HV5.out.later HB6.out).v
              rw [hu] at this
              exact this
            have HLK : Hid (∀ W, Below W5.heap.size W5 W → (Instr.lookup 26 (.map (some r)) (.agg #[.int .i64 x.g, .int .i64 x.n, .int .i64 x.i]) true).run Tryz.prog W = .ok (.tuple #[.int .i64 u, .bool true]) W) := fun W hW => by
              have := (HV5.out.later hW).look x
              rw [hu] at this
              exact this
            have HX6 := hide (heap_alloc_new wr (.cells #[.int .i64 x.g, .int .i64 x.n, .int .i64 x.i] 28))
            have hlq : t < qk := by omega
            clear k1 hx hu hba HB
            go_wp2_with fail
            generalize wr.alloc (.cells #[.int .i64 x.g, .int .i64 x.n, .int .i64 x.i] 28) = W6 at *
            generalize wr.heap.size = q6 at *
            clear x0 x1 x2
            refine HG.out.mono ?_
            rintro e W7 ⟨rfl, b7⟩
            have HB7 := hide (HB6.out.trans (b7.mono HB6.out.size))
            obtain ⟨x0, x1, x2⟩ := cells_three (boxed_old HX6.out b7)
            have lk := HLK.out W7 HB7.out
            clear b7 HB6 HG HLK HX6
            go_wp2
            exact ⟨⟨t + 1, by omega, by simp, HB7⟩, by simp [intOf]; omega⟩
          · have HV8 := hide (HV5.out.later HB.out)
            have HX8 := hide (boxed_old HX5.out HB.out)
            clear HB HV5 HX5 HO5 HM1
            obtain ⟨x0, x1, x2⟩ := cells_three HX8.out
            have HG : Hid (Calls Tryz.prog 21 #[.pointer (some ⟨gv, 0, none⟩), .agg #[.int .i64 κ.g, .int .i64 κ.n, .int .i64 κ.i]] wr fun e w' => e = .returned (.tuple #[.int .i64 0, .bool false]) ∧ Below wr.heap.size wr w') := by
              have := valueGet A' gv N' f' κ wr HV8.out.v
              rw [hfk] at this
              exact this
            go_wp2_with fail
            refine HG.out.mono ?_
            rintro e W9 ⟨rfl, b9⟩
            have HV9 := hide (HV8.out.later b9)
            have z0' := HIN.out W9 HV9.out.bel
            clear b9 HV8 HX8 HG HIN x0 x1 x2
            go_wp2
            go_roundg (50 - (j + 1))
            case measure => omega
            case rel => exact ⟨j + 1, rfl, by omega, by omega, by simp, hide ⟨f', l', c', N', A', by omega, HV9.out⟩⟩
    · have hcs : (¬ j < n0) ∨ (j < n0 ∧ ¬ j < 50) := by omega
      have HF : Hid (Below w.heap.size w wr) := by obtain ⟨f, l, c, N, A, _, hV⟩ := HV.out; exact hV.bel
      clear hin HV HK
      rcases hcs with hh | ⟨hh, hh2⟩
      all_goals
        go_wp2
        go_ret
        exact ⟨rfl, HF.out⟩
end Go.Proofs.YtkchfbigkecodaaGreat.valueAll
