/- What package store does with whatever many objects: how long they are. -/
import Derived.Test.YtgpfpmocdmeldaaMapS
import Derived.Test.YtgpfpmocdmeldaaStore1
namespace Go.Proofs.Ytgpfpmocdmeldaa
open Go.RowKit Go.MapKept Go.ChangeMaps

def lenV : Value → Nat
  | .slice _ n _ => n
  | _ => 0

/-- A store: its room, what is used, its objects. -/
structure Sto (w : World) (B g : Nat) (room used : Int) (mo : Option Nat) (l : List (Ent ByteArray)) (c : Nat) : Prop where
  obj : w.heap[g]? = some (stObj room used mo)
  low : B ≤ g
  made : ∀ mb, mo = some mb → mb ≠ g ∧ B ≤ mb ∧ Mp strE w mb l c
  none : mo = none → l = [] ∧ c = 0
  vals : ∀ x ∈ l, ∃ gv n, x.v = .slice (some ⟨gv, 0, Option.none⟩) n n

theorem Sto.later {w w' : World} {B C g : Nat} {room used : Int} {mo : Option Nat} {l : List (Ent ByteArray)} {c : Nat} (h : Sto w B g room used mo l c) (hb : Below C w w') (hC : w.heap.size ≤ C) : Sto w' B g room used mo l c :=
  ⟨(hb.block _ (Nat.lt_of_lt_of_le (lt_of_heap h.obj) hC)).trans h.obj, h.low, fun mb e => ⟨(h.made mb e).1, (h.made mb e).2.1, (h.made mb e).2.2.later hb hC⟩, h.none, h.vals⟩

/-- What a store's doing leaves as it was. -/
def Fr (w w' : World) (g : Nat) (mo : Option Nat) : Prop := ∀ k, k < w.heap.size → k ≠ g → mo ≠ some k → w'.heap[k]? = w.heap[k]?

/-- While an object is added. -/
def Pst4 (B g mb : Nat) (room used : Int) (l : List (Ent ByteArray)) (c : Nat) (w W : World) : Prop :=
  W.heap[g]? = some (stObj room used (some mb)) ∧ Mp strE W mb l c ∧ w.grownBy W (some g) ∧ Below B w W

theorem Pst4.later {B g mb : Nat} {room used : Int} {l : List (Ent ByteArray)} {c : Nat} {w W W' : World} (h : Pst4 B g mb room used l c w W) (hB : B ≤ w.heap.size) (hb : Below W.heap.size W W') : Pst4 B g mb room used l c w W' :=
  ⟨(hb.block g (lt_of_heap h.1)).trans h.1, h.2.1.later hb (Nat.le_refl _), grown_trans h.2.2.1 (below_grown hb _), h.2.2.2.trans (hb.mono (Nat.le_trans hB h.2.2.2.size))⟩

theorem add4_clone {B g mb : Nat} {room used : Int} {l : List (Ent ByteArray)} {c : Nat} {w W : World} (s : ByteArray) (h0 : ¬ s.size = 0) (hs : s.size ≤ 1000) (hB : B ≤ w.heap.size) (h : Pst4 B g mb room used l c w W) :
    Calls Try.prog 76 #[.string s] W fun e W1 => e = .returned (.string s) ∧ Hid (Pst4 B g mb room used l c w W1) ∧ W1.cell? ⟨g, 2, none⟩ = some (.map (some mb)) := by
  refine (clone_any s W h0 (by omega)).mono ?_
  rintro e W1 ⟨rfl, hb⟩
  have h1 := h.later hB hb
  exact ⟨rfl, h1, (st_cells h1.1).2.2.1⟩

theorem add4_copy {B g mb : Nat} {room used : Int} {l : List (Ent ByteArray)} {c : Nat} {w W : World} (s : ByteArray) (hs : s ∉ l.map Ent.k) (a : Option Addr) (n cap : Nat) (z : List Int) (hmg : mb ≠ g) (hmB : B ≤ mb) (hB : B ≤ w.heap.size) (h : Pst4 B g mb room used l c w W) (hbs : ∀ W, w.grownBy W (some g) → Bs W a n cap z) (hn : n ≤ 100000) :
    Calls Try.prog 75 #[.slice a n cap] W fun e W2 => ∃ gv W3, e = .returned (.slice (some ⟨gv, 0, none⟩) n n) ∧ W2.cell? ⟨g, 2, none⟩ = some (.map (some mb)) ∧
      (Instr.mapUpdate 77 (.map (some mb)) (.string s) (.slice (some ⟨gv, 0, none⟩) n n)).run Try.prog W2 = .ok () W3 ∧
      Hid (W3.heap[g]? = some (stObj room used (some mb)) ∧ Mp strE W3 mb (l ++ [⟨s, .slice (some ⟨gv, 0, none⟩) n n, c⟩]) (c + 1) ∧ Below B w W3 ∧ Fr w W3 g (some mb)) := by
  refine (copyOfS a n cap z W (hbs W h.2.2.1) (by omega)).mono ?_
  rintro e W2 ⟨rfl, ho, hb⟩
  have h2 := h.later hB hb
  obtain ⟨W3, hrun, h3, hgr⟩ := h2.2.1.put strKeyd und98 s (.slice (some ⟨W.heap.size, 0, none⟩) n n) hs
  refine ⟨_, W3, rfl, (st_cells h2.1).2.2.1, hrun, (hgr.block g (lt_of_heap h2.1) (by simp; exact Ne.symm hmg)).trans h2.1, h3, ?_, ?_⟩
  · exact h2.2.2.2.grown hgr (Nat.le_trans hB h2.2.2.2.size) (fun k hk => by simp at hk; omega)
  · intro k hk hkg hkm
    rw [hgr.block k (Nat.lt_of_lt_of_le hk h2.2.2.1.size) (fun e => hkm e.symm)]
    exact h2.2.2.1.block k hk (fun e => hkg (by simpa using e))

set_option maxRecDepth 100000 in
set_option maxHeartbeats 800000 in
theorem storeAdd4 (B g mb : Nat) (room used : Int) (l : List (Ent ByteArray)) (c : Nat) (s : ByteArray) (a : Option Addr) (n cap : Nat) (z : List Int) (w : World) (h : Sto w B g room used (some mb) l c) (hk : s ∉ l.map Ent.k) (h0 : ¬ s.size = 0) (hs : s.size ≤ 1000) (hbs : Bs w a n cap z) (hng : ∀ ad, a = some ad → 0 < n → ad.block ≠ g) (hn : n ≤ 100000) (hu0 : 0 ≤ used) (hu : used ≤ 1000000) :
    Calls Try.prog 43 #[.pointer (some ⟨g, 0, none⟩), .string s, .slice a n cap] w fun e w' => ∃ gv, e = .returned (.tuple #[]) ∧ Sto w' B g room (used + n) (some mb) (l ++ [⟨s, .slice (some ⟨gv, 0, none⟩) n n, c⟩]) (c + 1) ∧ Below B w w' ∧ Fr w w' g (some mb) := by
  have hnm := fun (W : World) (r : Option Nat) => run_eql_map_nil (P := Try.prog) W 77 9 32 r und98
  obtain ⟨c0, c1, c2, f1, f2⟩ := st_cells h.obj
  obtain ⟨hmg, hmB, hmp⟩ := h.made mb rfl
  have hlt := lt_of_heap h.obj
  have hBw : B ≤ w.heap.size := Nat.le_trans h.low (by omega)
  have F4 : Hid (∀ W, w.grownBy W (some g) → Bs W a n cap z) := by
    intro W hW
    obtain ⟨h1, h2, h3, h4, h5, h6⟩ := hbs
    refine ⟨h1, h2, h3, h4, fun hp => ?_, h6⟩
    obtain ⟨b, o, rfl, hc⟩ := h5 hp
    exact ⟨b, o, rfl, fun i hi => hW.cell (hc i hi) (by have := hng _ rfl hp; simpa using this)⟩
  have hP : Pst4 B g mb room used l c w w.drew := ⟨h.obj, hmp.at rfl, grown_drew (below_grown (Below.refl _ _) _), (Below.refl _ _).drew⟩
  have HP := hide hP
  have HV := hide h.vals
  have HL := hide h.low
  have HK := hide hk
  have HMG := hide hmg
  have HMB := hide hmB
  clear h hbs hng hP hmp hk
  go_enter Try.func43, Try.ntmps43
  go_wp2
  go_region_with (first | (go_at_call 76; (refine (add4_clone s h0 hs hBw HP.out).mono ?_; rintro e W1 ⟨rfl, HP1, d2⟩)) | (go_at_call 75; (refine (add4_copy s HK.out a n cap z HMG.out HMB.out hBw HP1.out F4.out hn).mono ?_; rintro e W2 ⟨gv, W3, rfl, e2, hrun, H3⟩)))
  all_goals
    obtain ⟨k0, k1, k2, l1, l2⟩ := st_cells H3.out.1
    go_wp2
  all_goals
    go_end0
    refine ⟨gv, rfl, ⟨(st_set H3.out.1 Option.none (used + (n : Int))).2, HL.out, fun mb' e => ?_, (fun e => by cases e), fun x hx => ?_⟩, H3.out.2.2.1.setCell (p := ⟨g, 1, none⟩) HL.out _, fun k hk hkg hkm => (Below.heap_setCell _ _ _ _ (by simp; exact hkg)).trans (H3.out.2.2.2 k hk hkg hkm)⟩
    · cases e
      exact ⟨HMG.out, HMB.out, H3.out.2.1.at (Below.heap_setCell _ _ _ _ (by simp; exact HMG.out))⟩
    · rcases List.mem_append.1 hx with hx | hx
      · exact HV.out x hx
      · simp at hx; subst hx; exact ⟨gv, n, rfl⟩

theorem zeroB (w : World) : (zeroValue 32).run Try.prog w = .ok (.slice none 0 0) w := by
  have hz : Try.t32.zero = some (.slice none 0 0) := by kernel_rfl
  simp [zeroValue, hz]

set_option maxRecDepth 100000 in
set_option maxHeartbeats 800000 in
theorem storeAdd4_first (B g : Nat) (room used : Int) (s : ByteArray) (a : Option Addr) (n cap : Nat) (z : List Int) (w : World) (h : Sto w B g room used Option.none [] 0) (h0 : ¬ s.size = 0) (hs : s.size ≤ 1000) (hbs : Bs w a n cap z) (hng : ∀ ad, a = some ad → 0 < n → ad.block ≠ g) (hn : n ≤ 100000) (hu0 : 0 ≤ used) (hu : used ≤ 1000000) :
    Calls Try.prog 43 #[.pointer (some ⟨g, 0, none⟩), .string s, .slice a n cap] w fun e w' => ∃ mb gv, e = .returned (.tuple #[]) ∧ Sto w' B g room (used + n) (some mb) [⟨s, .slice (some ⟨gv, 0, none⟩) n n, 0⟩] 1 ∧ Below B w w' ∧ Fr w w' g none ∧ w.heap.size ≤ mb := by
  have hmm := @run_makeMap Try.prog
  have hnm := fun (W : World) (r : Option Nat) => run_eql_map_nil (P := Try.prog) W 77 9 32 r und98
  obtain ⟨c0, c1, c2, f1, f2⟩ := st_cells h.obj
  have hlt := lt_of_heap h.obj
  have hBw : B ≤ w.heap.size := Nat.le_trans h.low (by omega)
  have hsz0 : (w.setCell ⟨g, 2, none⟩ (.map (some w.heap.size))).heap.size = w.heap.size := by simp [World.setCell]
  have F1 : Hid (((w.setCell ⟨g, 2, none⟩ (.map (some w.heap.size))).alloc (.map #[] 0)).heap[g]? = some (stObj room used (some w.heap.size))) := by
    show _ = _
    rw [Below.heap_alloc _ _ _ (by rw [hsz0]; exact hlt)]
    exact (st_set h.obj _ 0).1
  have F2 : Hid (Mp strE ((w.setCell ⟨g, 2, none⟩ (.map (some w.heap.size))).alloc (.map #[] 0)) w.heap.size [] 0) := by
    have := Mp.new (E := strE) (w.setCell ⟨g, 2, none⟩ (.map (some w.heap.size)))
    rwa [hsz0] at this
  have F3 : Hid (w.grownBy ((w.setCell ⟨g, 2, none⟩ (.map (some w.heap.size))).alloc (.map #[] 0)) (some g)) :=
    grown_trans (grown_setCell w g 2 _) (World.grownBy_alloc _ _ _)
  have F5 : Hid (Below B w ((w.setCell ⟨g, 2, none⟩ (.map (some w.heap.size))).alloc (.map #[] 0))) :=
    ((Below.refl B w).setCell (p := ⟨g, 2, none⟩) h.low _).trans (below_alloc _ _ _ (by rw [hsz0]; exact hBw))
  have F4 : Hid (∀ W, w.grownBy W (some g) → Bs W a n cap z) := by
    intro W hW
    obtain ⟨h1, h2, h3, h4, h5, h6⟩ := hbs
    refine ⟨h1, h2, h3, h4, fun hp => ?_, h6⟩
    obtain ⟨b, o, rfl, hc⟩ := h5 hp
    exact ⟨b, o, rfl, fun i hi => hW.cell (hc i hi) (by have := hng _ rfl hp; simpa using this)⟩
  have HL := hide h.low
  have HMG : Hid (w.heap.size ≠ g) := by show _ ≠ _; omega
  clear h hbs hng hsz0
  go_enter Try.func43, Try.ntmps43
  go_wp2
  generalize (w.setCell ⟨g, 2, none⟩ (.map (some w.heap.size))).alloc (.map #[] 0) = W0 at *
  clear c0 c1 c2 f1 f2
  obtain ⟨c0, c1, c2, f1, f2⟩ := st_cells F1.out
  have hP : Pst4 B g w.heap.size room used [] 0 w W0.drew := ⟨F1.out, F2.out.at rfl, grown_drew F3.out, F5.out.drew⟩
  have HP := hide hP
  clear hP F1 F2 F3 F5
  go_region_with (first | (go_at_call 76; (refine (add4_clone s h0 hs hBw HP.out).mono ?_; rintro e W1 ⟨rfl, HP1, d2⟩)) | (go_at_call 75; (refine (add4_copy s (by simp) a n cap z HMG.out hBw hBw HP1.out F4.out hn).mono ?_; rintro e W2 ⟨gv, W3, rfl, e2, hrun, H3⟩)))
  all_goals
    obtain ⟨k0, k1, k2, l1, l2⟩ := st_cells H3.out.1
    go_wp2
  all_goals
    go_end0
    refine ⟨w.heap.size, gv, rfl, ⟨(st_set H3.out.1 Option.none (used + (n : Int))).2, HL.out, fun mb' e => ?_, (fun e => by cases e), fun x hx => ?_⟩, H3.out.2.2.1.setCell (p := ⟨g, 1, none⟩) HL.out _, fun k hk hkg _ => (Below.heap_setCell _ _ _ _ (by simp; exact hkg)).trans (H3.out.2.2.2 k hk hkg (by simp; omega)), Nat.le_refl _⟩
    · cases e
      exact ⟨HMG.out, hBw, H3.out.2.1.at (Below.heap_setCell _ _ _ _ (by simp; exact HMG.out))⟩
    · simp at hx; subst hx; exact ⟨gv, n, rfl⟩

set_option maxRecDepth 100000 in
theorem fits4 (g n : Nat) (room used : Int) (mo : Option Nat) (w : World) (hg : w.heap[g]? = some (stObj room used mo)) (hr : 1 ≤ room) (hr2 : room ≤ 1000000) (hu : 0 ≤ used) (hu2 : used ≤ room) :
    Calls Try.prog 42 #[.pointer (some ⟨g, 0, none⟩), .int .i64 n] w fun e w' => e = .returned (.bool (decide (used + n ≤ room))) ∧ ∃ nq, w' = w.drewN nq := by
  obtain ⟨c0, c1, c2, f1, f2⟩ := st_cells hg
  have hb : (room == 0) = false := by simp; omega
  have HD : Hid (decide (used + (n : Int) ≤ room) = decide ((n : Int) ≤ room - used)) := by
    show _ = _
    rw [decide_eq_decide]; omega
  clear hg
  go_enter Try.func42, Try.ntmps42
  go_wp2
  go_quiet (fail)
  go_wp2
  go_ret
  exact ⟨ret_bool (by rw [HD.out]), nq, rfl⟩

set_option maxRecDepth 100000 in
set_option maxHeartbeats 800000 in
/-- A put of an object whose name is not there. -/
theorem storePut4 (B g : Nat) (room used : Int) (mo : Option Nat) (l : List (Ent ByteArray)) (c : Nat) (s : ByteArray) (a : Option Addr) (n cap : Nat) (z : List Int) (w : World) (h : Sto w B g room used mo l c) (hk : s ∉ l.map Ent.k) (h0 : 1 ≤ s.size) (hs : s.size ≤ 40) (hbs : Bs w a n cap z) (hng : ∀ ad, a = some ad → 0 < n → ad.block ≠ g) (hn : n ≤ 1000) (hr : 1 ≤ room) (hr2 : room ≤ 100000) (hu0 : 0 ≤ used) (hu : used ≤ room) :
    Calls Try.prog 13 #[.pointer (some ⟨g, 0, none⟩), .string s, .slice a n cap, .bool false] w fun e w' => Below B w w' ∧ Fr w w' g mo ∧ ((used + n ≤ room ∧ e = .returned (.int .i64 0) ∧ ∃ mb, (∀ k, mo = some k → k = mb) ∧ w.heap.size ≤ w'.heap.size ∧ (mo = none → w.heap.size ≤ mb) ∧ ∃ gv, Sto w' B g room (used + n) (some mb) (l ++ [⟨s, .slice (some ⟨gv, 0, none⟩) n n, c⟩]) (c + 1)) ∨ (¬ used + n ≤ room ∧ e = .returned (.int .i64 4) ∧ Sto w' B g room used mo l c)) := by
  obtain ⟨c0, c1, c2, f1, f2⟩ := st_cells h.obj
  have lk : (Instr.lookup 77 (.map mo) (.string s) true).run Try.prog w = .ok (.tuple #[.slice none 0 0, .bool false]) w := by
    cases mo with
    | none => exact look_nilE strKeyd und98 (zeroB w) s true
    | some mb =>
      have := (h.made mb rfl).2.2.look strKeyd und98 (zeroB w) s true
      rw [atE_none hk] at this
      exact this
  have d1 : decide ((s.size : Int) ≤ 40) = true := by simp; omega
  have d2 : decide (1 ≤ (s.size : Int)) = true := by simp; omega
  have HF := hide (fits4 g n room used mo w h.obj hr (by omega) hu0 hu)
  have HS := hide h
  have HB := hide hbs
  have HK := hide hk
  have HN := hide hng
  clear h hbs hk hng
  by_cases hfit : used + (n : Int) ≤ room
  · rw [decide_eq_true hfit] at HF
    have HFT := hide hfit
    clear hfit
    go_enter Try.func13, Try.ntmps13
    go_wp2_with (first | (go_at_call 40; go_in) | fail)
    refine HF.out.mono ?_
    rintro e w1 ⟨rfl, nq, rfl⟩
    have hD := below_drewN (Below.refl w.heap.size w) nq
    have HA : Hid (Calls Try.prog 43 #[.pointer (some ⟨g, 0, none⟩), .string s, .slice a n cap] (w.drewN nq) fun e w' => ∃ mb gv, e = .returned (.tuple #[]) ∧ Sto w' B g room (used + n) (some mb) (l ++ [⟨s, .slice (some ⟨gv, 0, none⟩) n n, c⟩]) (c + 1) ∧ Below B (w.drewN nq) w' ∧ Fr w w' g mo ∧ (∀ k, mo = some k → k = mb) ∧ w.heap.size ≤ w'.heap.size ∧ (mo = none → w.heap.size ≤ mb)) := by
      have hS := HS.out.later hD (Nat.le_refl _)
      cases mo with
      | none =>
        obtain ⟨rfl, rfl⟩ := hS.none rfl
        refine (storeAdd4_first B g room used s a n cap z _ hS (by omega) (by omega) (HB.out.later hD (Nat.le_refl _)) HN.out (by omega) hu0 (by omega)).mono ?_
        rintro e w' ⟨mb, gv, rfl, k1, k2, k3, k4⟩
        exact ⟨mb, gv, rfl, k1, k2, k3, (fun k e => by cases e), Nat.le_trans hD.size k2.size, fun _ => k4⟩
      | some mb =>
        refine (storeAdd4 B g mb room used l c s a n cap z _ hS HK.out (by omega) (by omega) (HB.out.later hD (Nat.le_refl _)) HN.out (by omega) hu0 (by omega)).mono ?_
        rintro e w' ⟨gv, rfl, k1, k2, k3⟩
        exact ⟨mb, gv, rfl, k1, k2, k3, (fun k e => by cases e; rfl), Nat.le_trans hD.size k2.size, (fun e => by cases e)⟩
    clear lk c0 c1 c2 f1 f2 HF
    go_wp2_with fail
    refine HA.out.mono ?_
    rintro e w2 ⟨mb, gv, rfl, k1, k2, k3, k4, k5, k6⟩
    have HK1 := hide k1
    have HK2 := hide ((below_drewN (Below.refl B w) nq).trans k2)
    have HK3 := hide (And.intro k3 (And.intro k4 (And.intro k5 k6)))
    clear k1 k2 k3 k4 k5 k6 hD HA
    go_wp2
    go_ret
    exact ⟨HK2.out, HK3.out.1, Or.inl ⟨HFT.out, rfl, mb, HK3.out.2.1, HK3.out.2.2.1, HK3.out.2.2.2, gv, HK1.out⟩⟩
  · rw [decide_eq_false hfit] at HF
    have HFT := hide hfit
    clear hfit
    go_enter Try.func13, Try.ntmps13
    go_wp2_with (first | (go_at_call 40; go_in) | fail)
    refine HF.out.mono ?_
    rintro e w1 ⟨rfl, nq, rfl⟩
    have HD := hide (below_drewN (Below.refl B w) nq)
    have HS2 := hide (HS.out.later (below_drewN (Below.refl w.heap.size w) nq) (Nat.le_refl _))
    clear lk c0 c1 c2 f1 f2 HF
    go_wp2
    go_ret
    exact ⟨HD.out, (fun k _ _ _ => rfl), Or.inr ⟨HFT.out, rfl, HS2.out⟩⟩

set_option maxRecDepth 100000 in
theorem storeUsed4 (g : Nat) (r u : Int) (m : Option Nat) (w : World) (hg : w.heap[g]? = some (stObj r u m)) :
    Calls Try.prog 14 #[.pointer (some ⟨g, 0, none⟩)] w fun e w' => e = .returned (.int .i64 u) ∧ w' = w := by
  obtain ⟨c0, c1, c2, f1, f2⟩ := st_cells hg
  clear hg
  go_enter Try.func14, Try.ntmps14
  go_wp2
  go_ret
  exact ⟨rfl, rfl⟩

set_option maxRecDepth 100000 in
/-- Is a name there? -/
theorem storeHas4 (B g b : Nat) (room used : Int) (mo : Option Nat) (l : List (Ent ByteArray)) (c : Nat) (s : ByteArray) (w : World) (h : Sto w B g room used mo l c) (hb : w.cell? ⟨b, 0, none⟩ = some (.string s)) (t : Bool) (ht : t = (atE l s).isSome) :
    Calls Try.prog 15 #[.pointer (some ⟨g, 0, none⟩), .slice (some ⟨b, 0, none⟩) 1 1] w fun e w' => e = .returned (.bool t) ∧ w' = w := by
  obtain ⟨c0, c1, c2, f1, f2⟩ := st_cells h.obj
  have lk : ∃ v, (Instr.lookup 77 (.map mo) (.string s) true).run Try.prog w = .ok (.tuple #[v, .bool t]) w := by
    cases mo with
    | none =>
      obtain ⟨rfl, _⟩ := h.none rfl
      subst ht
      exact ⟨_, look_nilE strKeyd und98 (zeroB w) s true⟩
    | some mb =>
      have := (h.made mb rfl).2.2.look strKeyd und98 (zeroB w) s true
      subst ht
      exact ⟨_, this⟩
  obtain ⟨v, lk⟩ := lk
  clear h ht
  cases t with
  | true =>
    go_enter Try.func15, Try.ntmps15
    go_wp2
    refine wp_loop_rounds 2 ?_
    rw [rounds_succ]
    go_wp2
    rw [rounds_succ]
    go_wp2
    go_ret
    exact ⟨rfl, rfl⟩
  | false =>
    go_enter Try.func15, Try.ntmps15
    go_wp2
    refine wp_loop_rounds 1 ?_
    rw [rounds_succ]
    go_wp2
    go_ret
    exact ⟨rfl, rfl⟩
end Go.Proofs.Ytgpfpmocdmeldaa
