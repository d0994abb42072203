/- Whatever many files: a map of names and bytes, each file's bytes a row of its own. -/
import Derived.Test.YtjdbkmjhjcmoaaaDskP
import Derived.Test.YtjdbkmjhjcmoaaaDisk3
namespace Go.Proofs.Ytjdbkmjhjcmoaaa
open Go.RowKit Go.MapKept Go.ChangeMaps

/-- The blocks of the files' rows. -/
def rowsOf (l : List (Ent ByteArray)) (k : Nat) : Prop := ∃ x ∈ l, x.v.ownBlock = some k

/-- Files that lie in the map at r. -/
structure Fil (w : World) (r : Nat) (l : List (Ent ByteArray)) (c : Nat) (F : Files) : Prop where
  mp : Mp strE w r l c
  row : ∀ x ∈ l, ∃ z, F x.k = some z ∧ w.ownsInts 0 5 .u8 x.v z
  non : ∀ s, s ∉ l.map Ent.k → F s = none
  sep : ∀ x ∈ l, ∀ y ∈ l, ∀ k, x.v.ownBlock = some k → y.v.ownBlock = some k → x.k = y.k

theorem Fil.lt {w : World} {r : Nat} {l : List (Ent ByteArray)} {c : Nat} {F : Files} (h : Fil w r l c F) : r < w.heap.size ∧ ∀ k, rowsOf l k → k < w.heap.size := by
  refine ⟨h.mp.lt, fun k hk => ?_⟩
  obtain ⟨x, hx, e⟩ := hk
  obtain ⟨z, _, ho⟩ := h.row x hx
  exact (ho.1.lt k e).2

theorem Fil.ne {w : World} {r : Nat} {l : List (Ent ByteArray)} {c : Nat} {F : Files} (h : Fil w r l c F) : ¬ rowsOf l r := by
  rintro ⟨x, hx, e⟩
  obtain ⟨z, _, ho⟩ := h.row x hx
  exact kind_owns ho h.mp.heap (fun c e => by cases e) e

theorem Fil.tch {S : Nat → Prop} {w w' : World} {r : Nat} {l : List (Ent ByteArray)} {c : Nat} {F : Files} (h : Fil w r l c F) (ht : Tch S w w') (hr : ¬ S r) (hk : ∀ k, rowsOf l k → ¬ S k) : Fil w' r l c F :=
  ⟨h.mp.at (ht.block r h.mp.lt hr), fun x hx => by
    obtain ⟨z, h1, h2⟩ := h.row x hx
    exact ⟨z, h1, ht.owns h2 (fun k e => hk k ⟨x, hx, e⟩)⟩, h.non, h.sep⟩
theorem Fil.later {w w' : World} {r : Nat} {l : List (Ent ByteArray)} {c : Nat} {F : Files} (h : Fil w r l c F) (hb : Below w.heap.size w w') : Fil w' r l c F :=
  h.tch (S := fun _ => False) (Below.tch hb) (fun e => e) (fun _ _ e => e)

theorem zeroBy (w : World) : (zeroValue 24).run Try.prog w = .ok (.slice none 0 0) w := by
  have hz : Try.t24.zero = some (.slice none 0 0) := by kernel_rfl
  simp [zeroValue, hz]

/-- What lies at a name. -/
theorem Fil.atS {w : World} {r : Nat} {l : List (Ent ByteArray)} {c : Nat} {F : Files} (h : Fil w r l c F) (s : ByteArray) :
    (atE l s = none ∧ F s = none ∧ s ∉ l.map Ent.k) ∨ ∃ x ∈ l, x.k = s ∧ atE l s = some x.v ∧ ∃ z, F s = some z ∧ w.ownsInts 0 5 .u8 x.v z := by
  by_cases hs : s ∈ l.map Ent.k
  · right
    obtain ⟨x, hx, e, ha⟩ := atE_some hs
    obtain ⟨z, h1, h2⟩ := h.row x hx
    exact ⟨x, hx, e, ha, z, by rw [← e]; exact h1, h2⟩
  · exact Or.inl ⟨atE_none hs, h.non s hs, hs⟩

def setF (F : Files) (s : ByteArray) (z : List Int) : Files := fun t => if t = s then some z else F t

theorem mem_setE {l : List (Ent ByteArray)} {s : ByteArray} {v : Value} {y : Ent ByteArray} (h : y ∈ setE l s v) : (y.k = s ∧ y.v = v) ∨ (y.k ≠ s ∧ y ∈ l) := by
  unfold setE at h
  obtain ⟨x, hx, rfl⟩ := List.mem_map.1 h
  by_cases e : x.k = s
  · rw [if_pos e]; exact Or.inl ⟨e, rfl⟩
  · rw [if_neg e]; exact Or.inr ⟨e, hx⟩

/-- The files at r have become F'; only their own blocks have turned. -/
def Grew (w w' : World) (r : Nat) (l : List (Ent ByteArray)) (F' : Files) : Prop :=
  ∃ l' c', Fil w' r l' c' F' ∧ Tch (fun k => k = r ∨ rowsOf l k) w w' ∧ (∀ k, rowsOf l' k → rowsOf l k ∨ w.heap.size ≤ k)

/-- A file's bytes have grown, or are new: noted in the map. -/
theorem Fil.upd {w w1 : World} {r : Nat} {l : List (Ent ByteArray)} {c : Nat} {F : Files} (h : Fil w r l c F) (s : ByteArray) (v0 : Value) (hv0 : v0 = (atE l s).getD (.slice none 0 0)) (hg : w.grownBy w1 v0.ownBlock) (v1 : Value) (z1 : List Int) (ho : w1.ownsInts 0 5 .u8 v1 z1) (hl : v1.ownBlock = v0.ownBlock ∨ v1.ownBlock = some w.heap.size) :
    ∃ w2 l' c', (Instr.mapUpdate 80 (.map (some r)) (.string s) v1).run Try.prog w1 = .ok () w2 ∧ Fil w2 r l' c' (setF F s z1) ∧ Tch (fun k => k = r ∨ rowsOf l k) w w2 ∧ (∀ k, rowsOf l' k → rowsOf l k ∨ w.heap.size ≤ k) := by
  have hlt := h.mp.lt
  have hv0r : ∀ k, v0.ownBlock = some k → rowsOf l k := by
    intro k hk
    rcases h.atS s with ⟨ha, _, _⟩ | ⟨x, hx, _, ha, _⟩
    · rw [ha] at hv0; subst hv0; cases hk
    · rw [ha] at hv0; subst hv0; exact ⟨x, hx, hk⟩
  have hne : v0.ownBlock ≠ some r := fun e => h.ne (hv0r r e)
  have hm1 : Mp strE w1 r l c := h.mp.kept hg hne
  have hv1r : v1.ownBlock ≠ some r := by
    rcases hl with e | e
    · rw [e]; exact hne
    · rw [e]; simp; omega
  have hv1 : ∀ k, v1.ownBlock = some k → (rowsOf l k ∨ w.heap.size ≤ k) := by
    intro k hk
    rcases hl with e | e
    · exact Or.inl (hv0r k (e.symm.trans hk))
    · rw [hk] at e; simp at e; right; omega
  have hT1 : Tch (fun k => k = r ∨ rowsOf l k) w w1 := (Tch.of hg).mono (fun k _ e => Or.inr (hv0r k e.symm))
  -- rows of other files
  have other : ∀ x ∈ l, x.k ≠ s → ∀ k, x.v.ownBlock = some k → v0.ownBlock ≠ some k ∧ v1.ownBlock ≠ some k := by
    intro x hx hxs k hk
    have h0 : v0.ownBlock ≠ some k := by
      intro e
      rcases h.atS s with ⟨ha, _, _⟩ | ⟨y, hy, hys, ha, _⟩
      · rw [ha] at hv0; subst hv0; cases e
      · rw [ha] at hv0; subst hv0
        exact hxs ((h.sep x hx y hy k hk e).trans hys)
    refine ⟨h0, fun e => ?_⟩
    rcases hl with e' | e'
    · exact h0 (e'.symm.trans e)
    · rw [e] at e'
      have := h.lt.2 k ⟨x, hx, hk⟩
      simp at e'; omega
  have keep : ∀ {w2 : World}, w1.grownBy w2 (some r) → ∀ x ∈ l, x.k ≠ s → ∃ z, setF F s z1 x.k = some z ∧ w2.ownsInts 0 5 .u8 x.v z := by
    intro w2 hg2 x hx hxs
    obtain ⟨z, h1, h2⟩ := h.row x hx
    refine ⟨z, by rw [setF, if_neg hxs]; exact h1, ?_⟩
    have h3 := (Tch.of hg).owns h2 (fun k hk e => (other x hx hxs k hk).1 e.symm)
    exact (Tch.of hg2).owns h3 (fun k hk e => h.ne ⟨x, hx, by rw [hk]; exact e⟩)
  have mine : ∀ {w2 : World}, w1.grownBy w2 (some r) → w2.ownsInts 0 5 .u8 v1 z1 := fun hg2 => (Tch.of hg2).owns ho (fun k hk e => hv1r (by rw [hk]; exact e))
  by_cases hs : s ∈ l.map Ent.k
  · obtain ⟨w2, hrun, hm2, hg2⟩ := hm1.set strKeyd und101 s v1 hs
    refine ⟨w2, setE l s v1, c, hrun, ⟨hm2, fun x hx => ?_, fun t ht => ?_, fun x hx y hy k hkx hky => ?_⟩, hT1.trans ((Tch.of hg2).mono (fun k _ e => Or.inl (by simpa using e))), fun k hk => ?_⟩
    · rcases mem_setE hx with ⟨e1, e2⟩ | ⟨e1, e2⟩
      · rw [e1, e2]; exact ⟨z1, if_pos rfl, mine hg2⟩
      · exact keep hg2 x e2 e1
    · rw [setE_keys] at ht
      rw [setF, if_neg (fun e => ht (by rw [e]; exact hs)), h.non t ht]
    · rcases mem_setE hx with ⟨e1, e2⟩ | ⟨e1, e2⟩
      · rcases mem_setE hy with ⟨e3, e4⟩ | ⟨e3, e4⟩
        · rw [e1, e3]
        · rw [e2] at hkx
          exact absurd hkx (other y e4 e3 k hky).2
      · rcases mem_setE hy with ⟨e3, e4⟩ | ⟨e3, e4⟩
        · rw [e4] at hky
          exact absurd hky (other x e2 e1 k hkx).2
        · exact h.sep x e2 y e4 k hkx hky
    · obtain ⟨x, hx, e⟩ := hk
      rcases mem_setE hx with ⟨e1, e2⟩ | ⟨e1, e2⟩
      · rw [e2] at e; exact hv1 k e
      · exact Or.inl ⟨x, e2, e⟩
  · obtain ⟨w2, hrun, hm2, hg2⟩ := hm1.put strKeyd und101 s v1 hs
    have hin : ∀ x ∈ l, x.k ≠ s := fun x hx e => hs (by rw [← e]; exact List.mem_map.2 ⟨x, hx, rfl⟩)
    refine ⟨w2, l ++ [⟨s, v1, c⟩], c + 1, hrun, ⟨hm2, fun x hx => ?_, fun t ht => ?_, fun x hx y hy k hkx hky => ?_⟩, hT1.trans ((Tch.of hg2).mono (fun k _ e => Or.inl (by simpa using e))), fun k hk => ?_⟩
    · rcases List.mem_append.1 hx with hx | hx
      · exact keep hg2 x hx (hin x hx)
      · simp at hx; subst hx; exact ⟨z1, if_pos rfl, mine hg2⟩
    · rw [List.map_append, List.mem_append, not_or] at ht
      have : t ≠ s := fun e => ht.2 (by simp [e])
      rw [setF, if_neg this, h.non t ht.1]
    · rcases List.mem_append.1 hx with hx | hx
      · rcases List.mem_append.1 hy with hy | hy
        · exact h.sep x hx y hy k hkx hky
        · simp at hy; subst hy
          exact absurd hky (other x hx (hin x hx) k hkx).2
      · rcases List.mem_append.1 hy with hy | hy
        · simp at hx; subst hx
          exact absurd hkx (other y hy (hin y hy) k hky).2
        · simp at hx hy; rw [hx, hy]
    · obtain ⟨x, hx, e⟩ := hk
      rcases List.mem_append.1 hx with hx | hx
      · exact Or.inl ⟨x, hx, e⟩
      · simp at hx; subst hx; exact hv1 k e

set_option maxRecDepth 100000 in
set_option maxHeartbeats 400000 in
/-- Bytes put behind a file, be it there or not. -/
theorem filesAdd_any (r : Nat) (l : List (Ent ByteArray)) (c : Nat) (F : Files) (s : ByteArray) (a : Option Addr) (n cap : Nat) (z : List Int) (w : World) (h : Fil w r l c F) (hc : capF F 60000) (hb : Bs w a n cap z) (hn : n ≤ 2000) :
    Calls Try.prog 43 #[.map (some r), .string s, .slice a n cap] w fun e w' => e = .returned (.tuple #[]) ∧ Grew w w' r l (addF F s z) := by
  have lk : (Instr.lookup 80 (.map (some r)) (.string s) false).run Try.prog w = .ok ((atE l s).getD (.slice none 0 0)) w := h.mp.look strKeyd und101 (zeroBy w) s false
  obtain ⟨v0, z0, hv0, ho, hz0, hl0⟩ : ∃ v0 z0, v0 = (atE l s).getD (.slice none 0 0) ∧ w.ownsInts 0 5 .u8 v0 z0 ∧ z0 = (F s).getD [] ∧ z0.length ≤ 60000 := by
    rcases h.atS s with ⟨ha, hF, _⟩ | ⟨x, hx, hxs, ha, z, hF, ho⟩
    · exact ⟨_, [], rfl, by rw [ha]; exact World.ownsInts_nil _ _ _ _, by rw [hF]; rfl, by simp⟩
    · exact ⟨_, z, rfl, by rw [ha]; exact ho, by rw [hF]; rfl, hc s z hF⟩
  rw [← hv0] at lk
  have HF := hide h
  have HV := hide hv0
  have HZ := hide hz0
  clear h hc hv0 hz0
  go_enter Try.func43, Try.ntmps43
  go_wp2_with (at_builtin; refine wpList_app rfl (.tmp 10) (.tmp 11) rfl 0 _ z0 rfl ho a n cap z rfl hb (by omega) (Nat.zero_le _) ?_)
  intro v1 w1 hown1 hg1 hl1
  obtain ⟨w2, l', c', hrun, h1, h2, h3⟩ := HF.out.upd s v0 HV.out hg1 v1 (z0 ++ z) hown1 hl1
  have H1 : Hid (Grew w w2 r l (addF F s z)) := by
    have e : addF F s z = setF F s (z0 ++ z) := by rw [HZ.out]; rfl
    show Grew _ _ _ _ _
    rw [e]; exact ⟨l', c', h1, h2, h3⟩
  clear h1 h2 h3 hown1 hg1 hl1 lk ho hb HF HV HZ
  go_wp2
  go_end0
  exact ⟨rfl, H1.out⟩

set_option maxRecDepth 100000 in
set_option maxHeartbeats 800000 in
/-- The rest of a torn append. -/
theorem filesTear_any (r : Nat) (l : List (Ent ByteArray)) (c : Nat) (F : Files) (s : ByteArray) (a : Option Addr) (n cap : Nat) (z : List Int) (w : World) (h : Fil w r l c F) (hc : capF F 60000) (hb : Bs w a n cap z) (hn : n ≤ 2000) :
    Calls Try.prog 65 #[.map (some r), .string s, .slice a n cap] w fun e w' => e = .returned (.tuple #[]) ∧ Grew w w' r l (if z = [] then F else addF F s z) := by
  have hz := hb.1
  by_cases h0 : n = 0
  · subst h0
    have e : z = [] := List.length_eq_zero_iff.1 hz
    subst e
    have H : Hid (Grew w w r l F) := ⟨l, c, h, ⟨rfl, rfl, rfl, Nat.le_refl _, fun _ _ _ => rfl⟩, fun k hk => Or.inl hk⟩
    rw [if_pos rfl]
    clear h hb hc
    go_enter Try.func65, Try.ntmps65
    go_wp2
    go_end0
    exact ⟨rfl, H.out⟩
  · have HA := hide (filesAdd_any r l c F s a n cap z w h hc hb hn)
    have hz' : z ≠ [] := by intro e; subst e; simp at hz; omega
    have hp : 0 < n := by omega
    rw [if_neg hz']
    clear h hb hc hz hz' h0
    go_enter Try.func65, Try.ntmps65
    go_wp2_with fail
    refine HA.out.mono ?_
    rintro e w1 ⟨rfl, k1⟩
    have H1 := hide k1
    clear k1 HA
    go_wp2
    go_end0
    exact ⟨rfl, H1.out⟩
end Go.Proofs.Ytjdbkmjhjcmoaaa
