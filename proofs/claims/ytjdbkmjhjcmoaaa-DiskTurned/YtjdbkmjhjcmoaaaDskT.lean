/- One byte of files turned. -/
import Derived.Test.YtjdbkmjhjcmoaaaDskN
import Derived.Test.YtjdbkmjhjcmoaaaLawB
namespace Go.Proofs.Ytjdbkmjhjcmoaaa
open Go.RowKit Go.MapKept Go.ChangeMaps

/-- A byte turned. -/
def flipB (x : Int) : Int := bits .xor .u8 x 1
def turnF (F : Files) : List ByteArray → Nat → Files
  | [], _ => F
  | n :: ns, k => if k < ((F n).getD []).length then setF F n (((F n).getD []).set k (flipB (((F n).getD []).getD k 0))) else turnF F ns (k - ((F n).getD []).length)

theorem flip_ok (x : Int) (h : 0 ≤ x ∧ x ≤ 255) : 0 ≤ flipB x ∧ flipB x ≤ 255 ∧ flipB x ≠ x := by
  obtain ⟨y, e, h1, h2, h3⟩ := xor_u8 x 1 h (by omega)
  unfold flipB
  rw [e]
  exact ⟨h1, h2, h3 (by omega)⟩

theorem turnF_keys (F : Files) (ns : List ByteArray) (k : Nat) (hns : ∀ s ∈ ns, F s ≠ none) (s : ByteArray) : turnF F ns k s = none ↔ F s = none := by
  induction ns generalizing k with
  | nil => exact Iff.rfl
  | cons n ns ih =>
    unfold turnF
    split
    · unfold setF
      by_cases e : s = n
      · rw [if_pos e, e]
        exact ⟨fun h => (by cases h), fun h => absurd h (hns n (List.mem_cons_self ..))⟩
      · rw [if_neg e]
    · exact ih _ (fun t ht => hns t (List.mem_cons_of_mem _ ht))

theorem turnF_len (F : Files) (ns : List ByteArray) (k : Nat) (s : ByteArray) : ((turnF F ns k s).getD []).length = ((F s).getD []).length := by
  induction ns generalizing k with
  | nil => rfl
  | cons n ns ih =>
    unfold turnF
    split
    · unfold setF
      by_cases e : s = n
      · rw [if_pos e, e]; simp
      · rw [if_neg e]
    · exact ih _

theorem capF.turn {F : Files} {M : Nat} (h : capF F M) (ns : List ByteArray) (k : Nat) : capF (turnF F ns k) M := fun s z hz => by
  have h1 := turnF_len F ns k s
  rw [hz] at h1
  cases hF : F s with
  | none =>
    rw [hF] at h1
    have : z.length = 0 := by simpa using h1
    omega
  | some y =>
    rw [hF] at h1
    have := h s y hF
    have e : z.length = y.length := by simpa using h1
    omega

theorem ent_uniq {l : List (Ent ByteArray)} (hn : (l.map Ent.k).Nodup) {x y : Ent ByteArray} (hx : x ∈ l) (hy : y ∈ l) (e : x.k = y.k) : x = y := by
  induction l with
  | nil => simp at hx
  | cons a l ih =>
    rw [List.map_cons, List.nodup_cons] at hn
    rcases List.mem_cons.1 hx with rfl | hx'
    · rcases List.mem_cons.1 hy with rfl | hy
      · rfl
      · exact absurd (by rw [e]; exact List.mem_map.2 ⟨y, hy, rfl⟩) hn.1
    · rcases List.mem_cons.1 hy with rfl | hy
      · exact absurd (by rw [← e]; exact List.mem_map.2 ⟨x, hx', rfl⟩) hn.1
      · exact ih hn.2 hx' hy

/-- A byte of one file set. -/
theorem Fil.poke {w : World} {r : Nat} {l : List (Ent ByteArray)} {c : Nat} {F : Files} (h : Fil w r l c F) (s : ByteArray) (z : List Int) (hs : F s = some z) (k : Nat) (hk : k < z.length) (y : Int) (hy : 0 ≤ y ∧ y ≤ 255) :
    ∃ g cap, atE l s = some (.slice (some ⟨g, 0, none⟩) z.length cap) ∧ z.length ≤ cap ∧ cap ≤ 9223372036854775807 ∧ w.cell? ⟨g, k, none⟩ = some (.int .u8 (z.getD k 0)) ∧ w.frozen? ⟨g, k, none⟩ = false ∧ Fil (w.setCell ⟨g, k, none⟩ (.int .u8 y)) r l c (setF F s (z.set k y)) ∧ Tch (rowsOf l) w (w.setCell ⟨g, k, none⟩ (.int .u8 y)) := by
  rcases h.atS s with ⟨_, hF, _⟩ | ⟨x, hx, hxs, ha, z', hF, ho⟩
  · rw [hF] at hs; cases hs
  · rw [hF] at hs; cases hs
    obtain ⟨g, cap, hv, _, hb⟩ := owns_shape ho (by omega)
    rw [hv] at ho
    obtain ⟨h1, h2, h3, h4⟩ := setAt ho hk hy
    have hgx : x.v.ownBlock = some g := by rw [hv]; rfl
    have hgr : g ≠ r := fun e => h.ne ⟨x, hx, by rw [hgx, e]⟩
    refine ⟨g, cap, by rw [ha, hv], hb.2.1, hb.2.2.1, h1, h2, ⟨h.mp.kept h4 (by simpa using hgr), fun y' hy' => ?_, fun t ht => ?_, h.sep⟩, (Tch.of h4).mono (fun k _ e => ⟨x, hx, by rw [hgx]; exact e.symm⟩)⟩
    · by_cases e : y'.k = s
      · have : y' = x := ent_uniq h.mp.keys hy' hx (e.trans hxs.symm)
        subst this
        refine ⟨_, by rw [setF, if_pos e], ?_⟩
        rw [hv]
        exact h3
      · obtain ⟨z2, hz2, ho2⟩ := h.row y' hy'
        refine ⟨z2, by rw [setF, if_neg e]; exact hz2, (Tch.of h4).owns ho2 (fun k hk' e' => ?_)⟩
        have e'' : k = g := by simpa using e'
        subst e''
        exact e ((h.sep y' hy' x hx k hk' hgx).trans hxs)
    · have : t ≠ s := fun e => ht (by rw [e, ← hxs]; exact List.mem_map.2 ⟨x, hx, rfl⟩)
      rw [setF, if_neg this, h.non t ht]

set_option maxRecDepth 100000 in
theorem turn_below (mo : Option Nat) (k : Int) (hk : k < 0) (w : World) :
    Calls Try.prog 49 #[.map mo, .int .i64 k] w fun e w' => e = .returned (.tuple #[]) ∧ w' = w := by
  have d : decide (k < 0) = true := by simp; omega
  go_enter Try.func49, Try.ntmps49
  go_wp2
  exact bodyPost_ret (v := .tuple #[]) (by simp [results, Try.results49, go_sem]) rfl ⟨rfl, rfl⟩

/-- Files whose byte has been turned. -/
def Turned (w w' : World) (r : Nat) (l : List (Ent ByteArray)) (c : Nat) (F : Files) (k : Nat) : Prop :=
  ∃ ns, NamesOf F ns ∧ Fil w' r l c (turnF F ns k) ∧ Tch (rowsOf l) w w'

set_option maxRecDepth 100000 in
set_option maxHeartbeats 1600000 in
theorem turn_any (r : Nat) (l : List (Ent ByteArray)) (c N : Nat) (F : Files) (k : Nat) (w : World) (h : Fil w r l c F) (hN : namF F N) (hN1 : N ≤ 1000) (hcap : capF F 60000) (hk : (k : Int) ≤ 9223372036854775807) :
    Calls Try.prog 49 #[.map (some r), .int .i64 k] w fun e w' => e = .returned (.tuple #[]) ∧ Turned w w' r l c F k := by
  have HN := hide (names_some r l c N F w h hN hN1)
  have HF := hide h
  have HC := hide hcap
  have d0 : decide ((k : Int) < 0) = false := by simp
  have hll : l.length ≤ 1000 := Nat.le_trans (h.len hN) hN1
  clear h hN hcap
  go_enter Try.func49, Try.ntmps49
  go_wp2_with fail
  refine HN.out.mono ?_
  rintro e w1 ⟨v, ns, rfl, hns, hown, hb⟩
  obtain ⟨pa, nc, rfl, hcell⟩ := hown.cells
  have HN1 := hide hns
  have HC1 := hide hcell
  have HB := hide hb
  have HF1 := hide (HF.out.later hb)
  have hnl : ns.length ≤ 4611686018427387904 := by
    have hp : ns.Perm (l.map Ent.k) := (List.perm_ext_iff_of_nodup hns.1 HF.out.mp.keys).2 (fun s => (hns.2.1 s).trans (HF.out.mem s).symm)
    have h2 := hp.length_eq
    rw [List.length_map] at h2
    omega
  clear hns hown hcell hb HN HF
  go_wp2
  go_loopw [1, 12] (fun b i wr => ∃ (j k' : Nat), j ≤ ns.length ∧ i = .int .i64 j ∧ b = .int .i64 k' ∧ k' ≤ k ∧ wr = w1 ∧ Hid (turnF F ns k = turnF F (ns.drop j) k')) (fun _ i _ => ns.length - (intOf i).toNat)
  case atStart => exact ⟨0, k, by omega, rfl, rfl, Nat.le_refl _, rfl, rfl⟩
  case round =>
    obtain ⟨j, k', hj, rfl, rfl, hkk, rfl, HT⟩ := hrel
    by_cases hlt : j < ns.length
    · obtain ⟨s, hs⟩ : ∃ s, ns[j]? = some s := ⟨_, List.getElem?_eq_getElem hlt⟩
      obtain ⟨g0, rfl, _, _, hc⟩ := HC1.out (by omega)
      have cs := hc j s hs
      have hdrop : ns.drop j = s :: ns.drop (j + 1) := by
        obtain ⟨hl, e⟩ := List.getElem?_eq_some_iff.1 hs
        rw [List.drop_eq_getElem_cons hl, e]
      obtain ⟨z, hz⟩ : ∃ z, F s = some z := by
        have := (HN1.out.2.1 s).1 (List.mem_of_getElem? hs)
        cases hF : F s with
        | none => exact absurd hF this
        | some z => exact ⟨z, rfl⟩
      have hzl : z.length ≤ 60000 := HC.out s z hz
      have HT2 : Hid (turnF F ns k = if k' < z.length then setF F s (z.set k' (flipB (z.getD k' 0))) else turnF F (ns.drop (j + 1)) (k' - z.length)) := by
        show _ = _
        rw [HT.out, hdrop, turnF, hz]
        rfl
      have lk : (Instr.lookup 80 (.map (some r)) (.string s) false).run Try.prog wr = .ok ((atE l s).getD (.slice none 0 0)) wr := HF1.out.mp.look strKeyd und101 (zeroBy wr) s false
      by_cases hkz : k' < z.length
      · have hx : 0 ≤ z.getD k' 0 ∧ z.getD k' 0 ≤ 255 := by
          rcases HF1.out.atS s with ⟨_, hF, _⟩ | ⟨x, _, _, _, z', hF, ho⟩
          · rw [hF] at hz; cases hz
          · rw [hF] at hz; cases hz
            obtain ⟨_, _, _, hb⟩ := Bs.of_owns ho
            exact hb.2.2.2.2.2 _ (by rw [List.getD_eq_getElem?_getD, List.getElem?_eq_getElem hkz]; simp)
        obtain ⟨f1, f2, _⟩ := flip_ok _ hx
        obtain ⟨g, cap, ha, hcap1, hcap2, hcell, hfr, hfil, htch⟩ := HF1.out.poke s z hz k' hkz (flipB (z.getD k' 0)) ⟨f1, f2⟩
        rw [ha] at lk
        simp only [Option.getD_some] at lk
        have HR : Hid (Turned w (wr.setCell ⟨g, k', none⟩ (.int .u8 (flipB (z.getD k' 0)))) r l c F k) := by
          refine ⟨ns, HN1.out, ?_, (Below.tch HB.out).trans htch⟩
          rw [HT2.out, if_pos hkz]
          exact hfil
        have eX : bits .xor .u8 (z.getD k' 0) 1 = flipB (z.getD k' 0) := rfl
        generalize flipB (z.getD k' 0) = y at *
        generalize z.getD k' 0 = x at *
        generalize z.length = n at *
        have dk : decide ((k' : Int) < (n : Int)) = true := by simp; omega
        clear HT HT2 HC HC1 hc hdrop hz hfil htch HB HF1 HN1
        go_wp2
        exact bodyPost_ret (v := .tuple #[]) (by simp [results, Try.results49, go_sem]) rfl ⟨rfl, HR.out⟩
      · rw [if_neg hkz] at HT2
        obtain ⟨a, cap, hav⟩ : ∃ a cap, (atE l s).getD (.slice none 0 0) = .slice a z.length cap := by
          rcases HF1.out.atS s with ⟨_, hF, _⟩ | ⟨x, _, _, ha, z', hF, ho⟩
          · rw [hF] at hz; cases hz
          · rw [hF] at hz; cases hz
            obtain ⟨a, cap, hv, _⟩ := Bs.of_owns ho
            exact ⟨a, cap, by rw [ha, hv]; rfl⟩
        rw [hav] at lk
        generalize z.length = n at *
        have dk : decide ((k' : Int) < (n : Int)) = false := by simp; omega
        have ek : (k' : Int) - (n : Int) = ((k' - n : Nat) : Int) := by omega
        clear HT HC hc hdrop hz
        go_wp2
        exact ⟨⟨j + 1, k' - n, by omega, rfl, rfl, by omega, trivial, HT2⟩, by simp [intOf]; omega⟩
    · have HR : Hid (Turned w wr r l c F k) := by
        refine ⟨ns, HN1.out, ?_, Below.tch HB.out⟩
        rw [HT.out, List.drop_eq_nil_of_le (by omega)]
        exact HF1.out
      clear HT HC1 HB HF1 HN1
      go_wp2
      go_end0
      exact ⟨rfl, HR.out⟩
end Go.Proofs.Ytjdbkmjhjcmoaaa
