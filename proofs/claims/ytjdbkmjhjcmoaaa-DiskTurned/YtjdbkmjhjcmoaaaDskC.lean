/- Files copied. -/
import Derived.Test.YtjdbkmjhjcmoaaaDskR
import Derived.Deep.LoopGhost
namespace Go.Proofs.Ytjdbkmjhjcmoaaa
open Go.RowKit Go.MapKept Go.ChangeMaps

theorem len_files {K : Type} {E : K → Value} {r c : Nat} {l : List (Ent K)} {w : World} (ty : TypeId) (hm : Mp E w r l c) : (Builtin.len_ #[80] ty #[.map (some r)]).run Try.prog w = .ok (.int .i64 l.length) w := by
  have h3 := Go.MapKept.run_getObj_map (P := Try.prog) hm.heap
  simp [Builtin.len_, run_underlying und101, h3]
  rfl
theorem len_nofiles (ty : TypeId) (w : World) : (Builtin.len_ #[80] ty #[.map none]).run Try.prog w = .ok (.int .i64 0) w := by
  simp [Builtin.len_, run_underlying und101]
  rfl
theorem range_nofiles (w : World) : (Instr.range 80 (.map none)).run Try.prog w = .ok (.pointer (some ⟨w.heap.size, 0, none⟩)) (w.alloc (.mapIter none 0 #[] 0)) := by
  simp [Instr.range, run_underlying und101]
theorem next_nofiles (r : Nat) (ty : TypeId) (w : World) (hr : w.heap[r]? = some (.mapIter none 0 #[] 0)) : (Instr.next (.pointer (some ⟨r, 0, none⟩)) false ty).run Try.prog w = .ok (.tuple #[.bool false]) w := by
  have h4 := run_getObj_it hr
  simp [Instr.next, h4]

theorem Itr.tch {S : Nat → Prop} {w w' : World} {g r : Nat} {l todo : List (Ent ByteArray)} {c : Nat} (h : Itr strE w g r l todo c) (ht : Tch S w w') (h1 : ¬ S r) (h2 : ¬ S g) : Itr strE w' g r l todo c := by
  obtain ⟨hm, seen, c0, hi, hc, e⟩ := h
  exact ⟨hm.at (ht.block r hm.lt h1), seen, c0, ht.old hi h2, hc, e⟩

/-- New files that are these. -/
def NewF (w w' : World) (m : Nat) (F : Files) : Prop := Below w.heap.size w w' ∧ w.heap.size ≤ m ∧ ∃ l c, Fil w' m l c F ∧ ∀ k, rowsOf l k → w.heap.size ≤ k

set_option maxRecDepth 100000 in
theorem filesCopy_nil (w : World) :
    Calls Try.prog 48 #[.map none] w fun e w' => ∃ m, e = .returned (.map (some m)) ∧ NewF w w' m (fun _ => none) := by
  have mk := mk_reserve 80 und101
  have ln := fun ty => len_nofiles ty w
  have rg := range_nofiles (w.alloc (.map #[] 0))
  have nx := fun ty => next_nofiles (w.heap.size + 1) ty ((w.alloc (.map #[] 0)).alloc (.mapIter none 0 #[] 0)) (by have := heap_alloc_new (w.alloc (.map #[] 0)) (.mapIter none 0 #[] 0); simpa using this)
  have HN : Hid (NewF w ((w.alloc (.map #[] 0)).alloc (.mapIter none 0 #[] 0)) w.heap.size (fun _ => none)) := by
    refine ⟨(below_alloc w _ _ (Nat.le_refl _)).trans (below_alloc _ _ _ (by simp)), Nat.le_refl _, [], 0, ⟨?_, by simp, by simp, by simp⟩, by rintro k ⟨x, hx, _⟩; simp at hx⟩
    exact (Mp.new (E := strE) w).later (below_alloc _ _ _ (Nat.le_refl _)) (Nat.le_refl _)
  go_enter Try.func48, Try.ntmps48
  go_wp2
  generalize (w.alloc (.map #[] 0)).alloc (.mapIter none 0 #[] 0) = W0 at *
  refine wp_loop_rounds 1 ?_
  rw [rounds_succ]
  go_wp2
  go_ret
  exact ⟨_, rfl, HN.out⟩

/-- Between two files. -/
structure Copy (w wr : World) (r : Nat) (l todo : List (Ent ByteArray)) (c : Nat) (F : Files) : Prop where
  it : Itr strE wr (w.heap.size + 1) r l todo c
  fil : ∃ l' c' F', Fil wr w.heap.size l' c' F' ∧ (∀ k, rowsOf l' k → w.heap.size ≤ k) ∧ (∀ s, s ∈ todo.map Ent.k → F' s = none) ∧ ∀ s, s ∉ todo.map Ent.k → F' s = F s
  bel : Below w.heap.size w wr
  nod : (todo.map Ent.k).Nodup
  sub : ∀ x ∈ todo, x ∈ l

theorem Copy.done {w wr : World} {r : Nat} {l : List (Ent ByteArray)} {c : Nat} {F : Files} (h : Copy w wr r l [] c F) : NewF w wr w.heap.size F := by
  obtain ⟨l', c', F', h1, h2, h3, h4⟩ := h.fil
  have : F' = F := by funext s; exact h4 s (by simp)
  subst this
  exact ⟨h.bel, Nat.le_refl _, l', c', h1, h2⟩

theorem Copy.step {w wr w1 : World} {r : Nat} {l todo todo' : List (Ent ByteArray)} {c : Nat} {F : Files} (hF : Fil w r l c F) (hcap : capF F 60000) (h : Copy w wr r l todo c F) (x : Ent ByteArray) (hx : x ∈ todo) (hit : Itr strE w1 (w.heap.size + 1) r l todo' c) (hp : todo.Perm (x :: todo')) (hg : wr.grownBy w1 (some (w.heap.size + 1))) :
    Calls Try.prog 47 #[x.v] w1 fun e w2 => ∃ v w3, e = .returned v ∧ (Instr.mapUpdate 80 (.map (some w.heap.size)) (.string x.k) v).run Try.prog w2 = .ok () w3 ∧ Copy w w3 r l todo' c F := by
  obtain ⟨l', c', F', h1, h2, h3, h4⟩ := h.fil
  obtain ⟨z, hz, ho⟩ := hF.row x (h.sub x hx)
  have hlt := hF.lt
  have hlen : z.length ≤ 60000 := hcap _ _ hz
  have hsw : w.heap.size + 1 < wr.heap.size := h.it.lt.2
  have hb1 : Below w.heap.size w w1 := h.bel.trans (grown_below hg (by omega) h.bel.size)
  have ho1 : w1.ownsInts 0 5 .u8 x.v z := by
    have hsz := ho.1.lt
    exact (Tch.mk (S := fun k => w.heap.size ≤ k) hb1.os hb1.tape hb1.output hb1.size (fun k _ hn => hb1.block k (by omega))).owns ho (fun k hk e => by have := (hsz k hk).2; omega)
  obtain ⟨a, cap, hv, hbs⟩ := Bs.of_owns ho1
  have hnx : x.k ∉ l'.map Ent.k := by
    intro hm
    obtain ⟨y, hy, e⟩ := List.mem_map.1 hm
    obtain ⟨zz, hzz, _⟩ := h1.row y hy
    rw [e, h3 x.k (List.mem_map.2 ⟨x, hx, rfl⟩)] at hzz
    cases hzz
  have hfil1 : Fil w1 w.heap.size l' c' F' := h1.tch (Tch.of hg) (by simp) (fun k hk e => by
    simp at e
    subst e
    obtain ⟨hm, seen, c0, hi, _⟩ := h.it
    exact h1.apart hi (fun c e => by cases e) hk)
  rw [hv]
  refine (copyOfD a z.length cap z w1 hbs (by omega)).mono ?_
  rintro e w2 ⟨rfl, hown, hb2⟩
  obtain ⟨w3, l3, c3, hrun, k1, k2, k3⟩ := hfil1.upd x.k (.slice none 0 0) (by rw [atE_none hnx]; rfl) (below_grown hb2 _) (.slice (some ⟨w1.heap.size, 0, none⟩) z.length z.length) z (owns_mono hown (Nat.zero_le _)) (Or.inr rfl)
  have hk : (todo.map Ent.k).Perm (x.k :: todo'.map Ent.k) := hp.map Ent.k
  have hnd := hk.nodup_iff.1 h.nod
  rw [List.nodup_cons] at hnd
  refine ⟨_, w3, rfl, hrun, ⟨?_, ⟨l3, c3, _, k1, ?_, ?_, ?_⟩, ?_, hnd.2, fun y hy => h.sub y (hp.mem_iff.2 (List.mem_cons_of_mem _ hy))⟩⟩
  · refine hit.tch k2 ?_ ?_
    · rintro (e | e)
      · omega
      · have := h2 r e; omega
    · obtain ⟨hm, seen, c0, hi, _⟩ := hit
      rintro (e | e)
      · omega
      · exact hfil1.apart hi (fun c e => by cases e) e
  · intro k hk'
    rcases k3 k hk' with e | e
    · exact h2 k e
    · have := hb1.size; omega
  · intro s hs
    have e : s ≠ x.k := fun e => hnd.1 (by rw [← e]; exact hs)
    rw [setF, if_neg e]
    exact h3 s (hk.mem_iff.2 (List.mem_cons_of_mem _ hs))
  · intro s hs
    rw [setF]
    by_cases e : s = x.k
    · rw [if_pos e, e, hz]
    · rw [if_neg e]
      exact h4 s (fun hm => (List.mem_cons.1 (hk.mem_iff.1 hm)).elim e hs)
  · refine hb1.trans (k2.below (fun k hk e => ?_) hb1.size)
    rcases e with e | e
    · omega
    · have := h2 k e; omega

set_option maxRecDepth 100000 in
set_option maxHeartbeats 800000 in
theorem filesCopy_some (r : Nat) (l : List (Ent ByteArray)) (c : Nat) (F : Files) (w : World) (h : Fil w r l c F) (hcap : capF F 60000) :
    Calls Try.prog 48 #[.map (some r)] w fun e w' => ∃ m, e = .returned (.map (some m)) ∧ NewF w w' m F := by
  have mk := mk_reserve 80 und101
  have ln := fun ty => len_files ty h.mp
  have hlt := h.mp.lt
  have hm1 : Mp strE (w.alloc (.map #[] 0)) r l c := h.mp.later (below_alloc w _ _ (Nat.le_refl _)) (Nat.le_refl _)
  obtain ⟨rg, hit⟩ := Itr.start und101 hm1
  have e1 : (w.alloc (.map #[] 0)).heap.size = w.heap.size + 1 := by simp
  rw [e1] at rg hit
  have HC : Hid (Copy w ((w.alloc (.map #[] 0)).alloc (.mapIter (some r) c #[] c)) r l l c F) := by
    refine ⟨hit, ⟨[], 0, fun _ => none, ⟨(Mp.new (E := strE) w).later (below_alloc _ _ _ (Nat.le_refl _)) (Nat.le_refl _), by simp, by simp, by simp⟩, by rintro k ⟨x, hx, _⟩; simp at hx, fun s _ => rfl, fun s hs => (h.non s hs).symm⟩, (below_alloc w _ _ (Nat.le_refl _)).trans (below_alloc _ _ _ (by simp)), h.mp.keys, fun x hx => hx⟩
  have HF := hide h
  have HM := hide hcap
  clear h hcap hit hm1 e1
  go_enter Try.func48, Try.ntmps48
  go_wp2
  generalize (w.alloc (.map #[] 0)).alloc (.mapIter (some r) c #[] c) = W0 at *
  have hgr : w.heap.size + 1 ≠ r := by omega
  clear rg mk ln
  go_loopg [4] l.length (fun gm _ wr => ∃ (todo : List (Ent ByteArray)), gm = todo.length ∧ Hid (Copy w wr r l todo c F))
  case atStart => exact ⟨l, rfl, HC⟩
  case round =>
    obtain ⟨todo, rfl, HK⟩ := hrel
    rcases HK.out.it.next hgr 0 with ⟨ht, nx⟩ | ⟨x, hx, W', todo', nx, en, hit', hp, hg⟩
    · subst ht
      have HD := hide HK.out.done
      clear HK
      go_wp2
      go_ret
      exact ⟨_, rfl, HD.out⟩
    · unfold strE at nx en
      have HS := hide (HK.out.step HF.out HM.out x hx hit' hp hg)
      have hlen : todo.length = todo'.length + 1 := by have := hp.length_eq; simpa using this
      clear hit' hp hg hx HK
      go_wp2_with fail
      refine HS.out.mono ?_
      rintro e W2 ⟨v, W3, rfl, hrun, hK⟩
      have HK := hide hK
      clear hK HS nx en
      go_wp2
      go_roundg todo'.length
      case measure => omega
      case rel => exact ⟨todo', rfl, HK⟩
end Go.Proofs.Ytjdbkmjhjcmoaaa
