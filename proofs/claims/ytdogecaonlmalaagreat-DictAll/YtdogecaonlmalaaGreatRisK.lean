/- Keys that rise are found rising. -/
import Derived.Test.YtdogecaonlmalaaGreatStat
import Derived.Deep.LoopGhost
namespace Go.Proofs.YtdogecaonlmalaaGreat
open Go.RowKit Go.MapKept Go.ChangeMaps

set_option maxRecDepth 100000 in
set_option maxHeartbeats 2000000 in
theorem rising_true (B : Nat) (p : Option Addr) (q : Nat) (ks : List K3) (w : World) (h : OwnK w B (.slice p ks.length q) ks) (hr : RiseK ks) (hl : ks.length ≤ 100000) :
    Calls Tryz.prog 10 #[.slice p ks.length q] w fun e w' => e = .returned (.bool true) ∧ Below w.heap.size w w' := by
  have HO := hide h
  have HR := hide hr
  clear h hr
  go_enter Tryz.func10, Tryz.ntmps10
  go_wp2_with fail
  go_loopg [3] (ks.length + 1) (fun gm i wr => ∃ t : Nat, 1 ≤ t ∧ gm = ks.length + 2 - t ∧ t ≤ ks.length + 1 ∧ i = .int .i64 t ∧ Hid (Below w.heap.size w wr))
  case atStart => exact ⟨1, by omega, by omega, by omega, rfl, Below.refl _ _⟩
  case round =>
    obtain ⟨t, h1, rfl, ht, rfl, HB⟩ := hrel
    by_cases hlt : t < ks.length
    · obtain ⟨s, hs⟩ : ∃ s, t = s + 1 := ⟨t - 1, by omega⟩
      have hts : (t : Int) - 1 = (s : Int) := by omega
      have hw : IntKind.i64.wrap (s : Int) = (s : Int) := by rw [IntKind.wrap_i64]; omega
      have hs0 : (0 : Int) ≤ (s : Int) := by omega
      have hsl : (s : Int) < (ks.length : Int) := by omega
      have k1 : OwnK wr _ (.slice p ks.length q) ks := own_tch (C := k3C) (S := fun _ => False) (Below.tch HB.out) HO.out (fun _ _ e => e)
      obtain ⟨g, rfl, hq⟩ : ∃ g, p = some ⟨g, 0, none⟩ ∧ ks.length ≤ q := by
        rcases k1.slice with ⟨_, e⟩ | ⟨g, cp, e, h, _⟩
        · rw [e] at hlt; simp at hlt
        · simp at e; exact ⟨g, e.1, by omega⟩
      obtain ⟨a, ha⟩ : ∃ a, ks[s]? = some a := ⟨_, List.getElem?_eq_getElem (by omega)⟩
      obtain ⟨b, hb⟩ : ∃ b, ks[t]? = some b := ⟨_, List.getElem?_eq_getElem hlt⟩
      obtain ⟨x0, x1, x2⟩ := k1.at ha
      obtain ⟨y0, y1, y2⟩ := k1.at hb
      have hle : lessK (k3T a) (k3T b) = true := by
        obtain ⟨ha1, rfl⟩ := List.getElem?_eq_some_iff.1 ha
        obtain ⟨hb1, rfl⟩ := List.getElem?_eq_some_iff.1 hb
        exact List.pairwise_iff_getElem.1 HR.out s t ha1 hb1 (by omega)
      have hD := (Below.refl wr.heap.size wr).drew
      have HC : Hid (Calls Tryz.prog 30 #[.agg #[.int .i64 a.g, .int .i64 a.n, .int .i64 a.i], .agg #[.int .i64 b.g, .int .i64 b.n, .int .i64 b.i]] wr.drew fun e w' => e = .returned (.bool true) ∧ Hid (Below w.heap.size w w') ∧ (w'.cell? ⟨g, s * 3, none⟩ = some (.int .i64 a.g) ∧ w'.cell? ⟨g, s * 3 + 1, none⟩ = some (.int .i64 a.n) ∧ w'.cell? ⟨g, s * 3 + 2, none⟩ = some (.int .i64 a.i) ∧ w'.cell? ⟨g, t * 3, none⟩ = some (.int .i64 b.g) ∧ w'.cell? ⟨g, t * 3 + 1, none⟩ = some (.int .i64 b.n) ∧ w'.cell? ⟨g, t * 3 + 2, none⟩ = some (.int .i64 b.i))) := by
        refine Calls.mono (refLess_any (k3T a) (k3T b) wr.drew) ?_
        rintro e w' ⟨r1, r2⟩
        rw [hle] at r1
        have hT := hD.trans (r2.mono hD.size)
        exact ⟨r1, HB.out.trans (hT.mono HB.out.size), same_cell hT x0, same_cell hT x1, same_cell hT x2, same_cell hT y0, same_cell hT y1, same_cell hT y2⟩
      have s0d : wr.drew.cell? ⟨g, s * 3, none⟩ = some (.int .i64 a.g) ∧ wr.drew.cell? ⟨g, s * 3 + 1, none⟩ = some (.int .i64 a.n) ∧ wr.drew.cell? ⟨g, s * 3 + 2, none⟩ = some (.int .i64 a.i) ∧ wr.drew.cell? ⟨g, t * 3, none⟩ = some (.int .i64 b.g) ∧ wr.drew.cell? ⟨g, t * 3 + 1, none⟩ = some (.int .i64 b.n) ∧ wr.drew.cell? ⟨g, t * 3 + 2, none⟩ = some (.int .i64 b.i) := ⟨x0, x1, x2, y0, y1, y2⟩
      have hlq : t < q := by omega
      have hls : s < q := by omega
      have hlt2 : s < ks.length := by omega
      clear k1 ha hb x0 x1 x2 y0 y1 y2 hle hD HB hs
      go_wp2
      go_region_held3 (fun w' => w'.cell? ⟨g, s * 3, none⟩ = some (.int .i64 a.g) ∧ w'.cell? ⟨g, s * 3 + 1, none⟩ = some (.int .i64 a.n) ∧ w'.cell? ⟨g, s * 3 + 2, none⟩ = some (.int .i64 a.i) ∧ w'.cell? ⟨g, t * 3, none⟩ = some (.int .i64 b.g) ∧ w'.cell? ⟨g, t * 3 + 1, none⟩ = some (.int .i64 b.n) ∧ w'.cell? ⟨g, t * 3 + 2, none⟩ = some (.int .i64 b.i)) (first | with_reducible exact s0d | with_reducible exact s1) ((go_at_call 30; with_reducible refine HC.out.mono ?_; rintro e W1 ⟨rfl, K1, s1⟩))
      all_goals
        clear HC s0d s1
        go_wp2
        go_roundg (ks.length + 2 - (t + 1))
        case measure => omega
        case rel => exact ⟨t + 1, by omega, rfl, by omega, by simp, K1⟩
    · have HF := hide HB.out
      clear HB HO HR
      go_wp2
      go_ret
      exact ⟨rfl, HF.out⟩
end Go.Proofs.YtdogecaonlmalaaGreat
