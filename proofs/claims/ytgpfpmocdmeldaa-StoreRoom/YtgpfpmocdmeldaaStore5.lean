/- What package store does with whatever many objects: Drop and List. -/
import Derived.Test.YtgpfpmocdmeldaaStore4
import Derived.Test.YtgpfpmocdmeldaaStrRow
import Derived.Deep.LoopGhost
namespace Go.Proofs.Ytgpfpmocdmeldaa
open Go.RowKit Go.MapKept Go.ChangeMaps

/-- Does s begin with p? -/
def preB (p s : ByteArray) : Bool := decide (p.size ≤ s.size) && ((s.extract 0 p.size).toList == p.toList)

set_option maxRecDepth 100000 in
theorem hasPre_lite (s p : ByteArray) (w : World) :
    Calls Try.prog 77 #[.string s, .string p] w fun e w' => e = .returned (.bool (preB p s)) ∧ w' = w := by
  by_cases h : p.size ≤ s.size
  · have E : Hid (preB p s = ((s.extract 0 p.size).toList == p.toList)) := by show _ = _; simp [preB, h]
    have h' : (p.size : Int) ≤ (s.size : Int) := by omega
    go_enter Try.func77, Try.ntmps77
    go_wp2
    go_ret
    exact ⟨ret_bool (by rw [E.out]), rfl⟩
  · have E : Hid (preB p s = false) := by show _ = _; simp [preB, h]
    have h' : ¬ (p.size : Int) ≤ (s.size : Int) := by omega
    go_enter Try.func77, Try.ntmps77
    go_wp2
    go_ret
    exact ⟨ret_bool (by rw [E.out]), rfl⟩

set_option maxRecDepth 100000 in
theorem hasPre_any (s p : ByteArray) (w : World) :
    Calls Try.prog 44 #[.string s, .string p] w fun e w' => e = .returned (.bool (preB p s)) ∧ w' = w := by
  go_enter Try.func44, Try.ntmps44
  go_wp2_with fail
  refine (hasPre_lite s p _).mono ?_
  rintro e w1 ⟨rfl, rfl⟩
  go_wp2
  go_ret
  exact ⟨rfl, rfl⟩

set_option maxRecDepth 100000 in
set_option maxHeartbeats 800000 in
/-- A drop of what is there. -/
theorem storeDrop5 (B g mb : Nat) (room used : Int) (l : List (Ent ByteArray)) (c : Nat) (s : ByteArray) (n : Nat) (gv : Nat) (w : World) (h : Sto w B g room used (some mb) l c) (hv : atE l s = some (.slice (some ⟨gv, 0, none⟩) n n)) (hu : (n : Int) ≤ used) (hu2 : used ≤ 1000000) :
    Calls Try.prog 17 #[.pointer (some ⟨g, 0, none⟩), .string s] w fun e w' => e = .returned (.int .i64 0) ∧ Sto w' B g room (used - n) (some mb) (delE l s) c ∧ Below B w w' ∧ Fr w w' g (some mb) := by
  obtain ⟨c0, c1, c2, f1, f2⟩ := st_cells h.obj
  obtain ⟨hmg, hmB, hmp⟩ := h.made mb rfl
  have hlt := lt_of_heap h.obj
  have lk := hmp.look strKeyd und98 (zeroB w) s true
  rw [hv] at lk
  simp only [if_true, Option.getD_some, Option.isSome_some] at lk
  have lk' : (Instr.lookup 77 (.map (some mb)) (.string s) true).run Try.prog w = .ok (.tuple #[.slice (some ⟨gv, 0, none⟩) n n, .bool true]) w := lk
  have ho1 : (w.setCell ⟨g, 1, none⟩ (.int .i64 (used - (n : Int)))).heap[g]? = some (stObj room (used - (n : Int)) (some mb)) := (st_set h.obj none _).2
  have hm1 : Mp strE (w.setCell ⟨g, 1, none⟩ (.int .i64 (used - (n : Int)))) mb l c := hmp.at (Below.heap_setCell _ _ _ _ (by simp; exact hmg))
  obtain ⟨W2, hrun, hm2, hg2⟩ := hm1.del strKeyd und98 0 s
  have hrun' : (Builtin.delete_ #[77, 9] 0 #[.map (some mb), .string s]).run Try.prog (w.setCell ⟨g, 1, none⟩ (.int .i64 (used - (n : Int)))) = .ok (.tuple #[]) W2 := hrun
  obtain ⟨e0, e1, e2, _, _⟩ := st_cells ho1
  have HO := hide ((hg2.block g (lt_of_heap ho1) (by simp; exact Ne.symm hmg)).trans ho1)
  have HM := hide hm2
  have HB := hide (((Below.refl B w).setCell (p := ⟨g, 1, none⟩) h.low (.int .i64 (used - (n : Int)))).grown hg2 (by simp [World.setCell]; exact Nat.le_trans h.low (by omega)) (fun k hk => by simp at hk; omega))
  have HFR : Hid (Fr w W2 g (some mb)) := fun k hk hkg hkm => by
    rw [hg2.block k (by simp [World.setCell]; exact hk) (fun e => hkm e.symm)]
    exact Below.heap_setCell _ _ _ _ (by simp; exact hkg)
  have HV := hide h.vals
  have HL := hide h.low
  have HMG := hide hmg
  have HMB := hide hmB
  clear h hmp hv lk ho1 hm1 hrun hm2 hg2 hmg hmB
  go_enter Try.func17, Try.ntmps17
  go_wp2
  go_ret
  refine ⟨rfl, ⟨HO.out, HL.out, fun mb' e => ?_, (fun e => by cases e), fun x hx => HV.out x (List.mem_filter.1 hx).1⟩, HB.out, HFR.out⟩
  cases e
  exact ⟨HMG.out, HMB.out, HM.out⟩

set_option maxRecDepth 100000 in
set_option maxHeartbeats 800000 in
/-- The names that begin so, in order. -/
theorem storeList5 (B g mb : Nat) (room used : Int) (l : List (Ent ByteArray)) (c : Nat) (f : ByteArray) (w : World) (h : Sto w B g room used (some mb) l c) (hl : l.length ≤ 1000) :
    Calls Try.prog 16 #[.pointer (some ⟨g, 0, none⟩), .string f] w fun e w' => ∃ v N, e = .returned v ∧ OwnS w' w.heap.size v (sortS N) ∧ N.Perm ((l.map Ent.k).filter (preB f)) ∧ Below w.heap.size w w' := by
  obtain ⟨c0, c1, c2, f1, f2⟩ := st_cells h.obj
  obtain ⟨hmg, hmB, hmp⟩ := h.made mb rfl
  obtain ⟨rg, hit⟩ := Itr.start und98 hmp
  have hml := hmp.lt
  have HIT := hide hit
  have HBA := hide (below_alloc w (.mapIter (some mb) c #[] c) w.heap.size (Nat.le_refl _))
  have hsz : (w.alloc (.mapIter (some mb) c #[] c)).heap.size = w.heap.size + 1 := by simp
  clear h hmp hit
  go_enter Try.func16, Try.ntmps16
  go_wp2
  generalize w.alloc (.mapIter (some mb) c #[] c) = W0 at *
  have hgr : w.heap.size ≠ mb := by omega
  clear rg c0 c1 c2 f1 f2
  go_loopg [5] l.length (fun gm v wr => ∃ (N : List ByteArray) (todo : List (Ent ByteArray)), gm = todo.length ∧ Hid (OwnS wr (w.heap.size + 1) v N) ∧ Hid (Itr strE wr w.heap.size mb l todo c) ∧ Hid ((N ++ (todo.map Ent.k).filter (preB f)).Perm ((l.map Ent.k).filter (preB f))) ∧ Hid (N.length + todo.length ≤ l.length) ∧ Hid (Below w.heap.size w wr) ∧ Hid (w.heap.size + 1 ≤ wr.heap.size))
  case atStart => exact ⟨[], l, rfl, OwnS.nil _ _, HIT, hide (by simp), hide (by simp), HBA, hide (by omega)⟩
  case round =>
    obtain ⟨N, todo, rfl, HN, HI, HP, HLN, HB, HS⟩ := hrel
    rcases HI.out.next hgr 0 with ⟨ht, nx⟩ | ⟨x, hx, W', todo', nx, en, hit', hp, hg⟩
    · subst ht
      have hp0 := HP.out
      simp only [List.map_nil, List.filter_nil, List.append_nil] at hp0
      have HPn := hide hp0
      have HSo := hide (sort_any (w.heap.size + 1) _ N wr HN.out (by have := HLN.out; simp at this; omega))
      clear hp0 HP HI
      go_wp2_with fail
      refine HSo.out.mono ?_
      rintro e W2 ⟨rfl, ho2, hg2⟩
      have HO2 : Hid (OwnS W2 w.heap.size u5 (sortS N)) := by
        obtain ⟨q1, q2⟩ := ho2
        refine ⟨q1, ?_⟩
        rcases q2 with q2 | ⟨g', cap, cur, e, hg', rest⟩
        · exact Or.inl q2
        · exact Or.inr ⟨g', cap, cur, e, by omega, rest⟩
      have HB2 := hide (HB.out.grown hg2 (by have := HS.out; omega) (fun k hk => by have := (HN.out.lt k hk).1; omega))
      clear ho2 hg2 HSo nx
      go_wp2
      go_ret
      exact ⟨_, N, rfl, HO2.out, HPn.out, HB2.out⟩
    · unfold strE at nx en
      have hw' := hg.size
      have HN' := hide (HN.out.kept hg (by
        cases e : u5.ownBlock with
        | none => exact Or.inl rfl
        | some k => exact Or.inr (fun e' => by have := (HN.out.lt k e).1; simp at e'; omega)))
      have HB' := hide (HB.out.grown hg (by have := HS.out; omega) (fun k hk => by simp at hk; omega))
      have HI' := hide hit'
      have HPm := hide hp
      have hlen : todo.length = todo'.length + 1 := by have := hp.length_eq; simpa using this
      have HSz : Hid (w.heap.size + 1 ≤ W'.heap.size) := by have := HS.out; show _ ≤ _; omega
      clear hit' hp hg HI HN HB
      go_wp2_with fail
      refine (hasPre_any _ _ _).mono ?_
      rintro e W1 ⟨rfl, rfl⟩
      cases hpre : preB f x.k with
      | true =>
        have HPn : Hid ((N ++ [x.k] ++ (todo'.map Ent.k).filter (preB f)).Perm ((l.map Ent.k).filter (preB f))) := by
          refine List.Perm.trans ?_ HP.out
          have := (HPm.out.map Ent.k).filter (preB f)
          rw [List.map_cons, List.filter_cons, if_pos hpre] at this
          rw [List.append_assoc]
          exact (List.Perm.append_left N this.symm)
        have HA := hide (below_alloc W1 (.cells #[.string x.k] 9) W1.heap.size (Nat.le_refl _))
        have hs1 := HSz.out
        have HLL : Hid (N.length ≤ 1000000) := by have := HLN.out; show _ ≤ _; omega
        clear nx en
        go_wp2_with (at_builtin; refine wpList_appSt rfl (.tmp 21) (.tmp 23) rfl (w.heap.size + 1) _ N rfl (HN'.out.later HA.out) W1.heap.size x.k rfl (by simp) HLL.out (by simp; omega) ?_)
        intro v2 W2 ho2 hg2 _
        have HI2 := hide ((HI'.out.later HA.out (Nat.le_refl _)).kept hg2 (fun e => by have := (HN'.out.lt _ e).1; omega) (fun e => by have := (HN'.out.lt _ e).1; omega))
        have HB2 := hide ((HB'.out.trans (HA.out.mono (by omega))).grown hg2 (by simp; omega) (fun k hk => by have := (HN'.out.lt k hk).1; omega))
        have HS2 : Hid (w.heap.size + 1 ≤ W2.heap.size) := by have := hg2.size; simp at this; show _ ≤ _; omega
        have HO2 := hide ho2
        have HL2 : Hid ((N ++ [x.k]).length + todo'.length ≤ l.length) := by have := HLN.out; show _ ≤ _; simp; omega
        clear ho2 hg2 HA HI' HB' HN'
        go_wp2
        go_roundg todo'.length
        case measure => omega
        case rel => exact ⟨N ++ [x.k], todo', rfl, HO2, HI2, HPn, HL2, HB2, HS2⟩
      | false =>
        have HPn : Hid ((N ++ (todo'.map Ent.k).filter (preB f)).Perm ((l.map Ent.k).filter (preB f))) := by
          refine List.Perm.trans ?_ HP.out
          have := (HPm.out.map Ent.k).filter (preB f)
          rw [List.map_cons, List.filter_cons, if_neg (by rw [hpre]; simp)] at this
          exact (List.Perm.append_left N this.symm)
        have HL2 : Hid (N.length + todo'.length ≤ l.length) := by have := HLN.out; show _ ≤ _; omega
        clear nx en
        go_wp2
        go_roundg todo'.length
        case measure => omega
        case rel => exact ⟨N, todo', rfl, HN', HI', HPn, HL2, HB', HSz⟩
end Go.Proofs.Ytgpfpmocdmeldaa
