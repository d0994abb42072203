/- Changes in general: what is written of one, of many. -/
import Derived.Test.YtgpfpmocdmeldaaGreatMutG
namespace Go.Proofs.YtgpfpmocdmeldaaGreat
open Go.RowKit

/-- The bytes of a change that may be. -/
def mutB (m : Mt) : List Int := [m.k] ++ [m.g] ++ [m.n] ++ [m.i] ++ (if hasF m.k then [m.f] else []) ++ (if hasV m.k then M.numB 9 (fold m.v) else [])

theorem may_parts {m : Mt} (h : mayB m = true) : (1 ≤ m.k ∧ m.k ≤ 6) ∧ (0 ≤ m.g ∧ m.g < 4) ∧ (0 ≤ m.n ∧ m.n < 2) ∧ (0 ≤ m.i ∧ m.i < 24) ∧ (0 ≤ m.f ∧ m.f < 8) ∧ (hasF m.k = false → m.f = 0) ∧ (hasV m.k = false → m.v = 0) := by
  simp only [mayB, kindB, keyB, inR, Bool.and_eq_true, decide_eq_true_eq] at h
  obtain ⟨⟨⟨h1, ⟨h2, h3⟩, h4⟩, h5⟩, h6⟩ := h
  have h7 : (0 ≤ m.f ∧ m.f < 8) ∧ (hasF m.k = false → m.f = 0) := by
    unfold fieldB at h5
    cases hF : hasF m.k with
    | true => simp [hF, inR] at h5; exact ⟨h5, fun e => by cases e⟩
    | false => simp [hF] at h5; exact ⟨by omega, fun _ => h5⟩
  refine ⟨h1, h2, h3, h4, h7.1, h7.2, fun e => ?_⟩
  unfold valueB at h6
  simpa [e] using h6

/-- What mut.write keeps between its rows. -/
def Wm (m : Mt) (B g : Nat) (w0 w : World) (v : Value) (l : List Int) : Prop :=
  w.ownsInts B 5 .u8 v l ∧ w.heap[g]? = some (mtObj m) ∧ v.ownBlock ≠ some g ∧ g < w.heap.size ∧ Below B w0 w

theorem Wm.next {m : Mt} {B g : Nat} {w0 w w' : World} {v v' : Value} {l l' : List Int} (h : Wm m B g w0 w v l) (hB : B ≤ w.heap.size) (hw : Wrote B w w' v v' l') : Wm m B g w0 w' v' l' := by
  obtain ⟨h1, h2, h3, h4, h5⟩ := h
  obtain ⟨k1, k2, k3⟩ := hw
  refine ⟨k1, (k2.block g h4 (fun e => h3 e.symm)).trans h2, ?_, Nat.lt_of_lt_of_le h4 k2.size, h5.trans ((Below.refl B w).grown k2 hB (fun k hk => (h1.1.lt k hk).1))⟩
  rcases k3 with k3 | ⟨k, e, hk⟩
  · rw [k3]; exact h3
  · rw [e]; simp; omega

theorem writeNumI (B : Nat) (v : Value) (l : List Int) (x : Int) (w : World) (h : w.ownsInts B 5 .u8 v l) (hB : B ≤ w.heap.size) (hl : l.length ≤ 1099511627776) (h0 : 0 ≤ x) (h1 : x < 128) :
    Calls Tryz.prog 83 #[v, .int .u64 x] w fun e w' => ∃ v', e = .returned v' ∧ Wrote B w w' v v' (l ++ [x]) :=
  writeNum1 B v l x.toNat w h hB hl (by omega) x (by omega)

set_option maxRecDepth 100000 in
set_option maxHeartbeats 1600000 in
theorem mutWrite_any (m : Mt) (hm : mayB m = true) (hx0 : -9223372036854775808 ≤ m.v) (hx1 : m.v ≤ 9223372036854775807) (B : Nat) (v : Value) (l : List Int) (w : World) (h : w.ownsInts B 5 .u8 v l) (hB : B ≤ w.heap.size) (hl : l.length ≤ 1000000) :
    Calls Tryz.prog 55 #[v, mV m] w fun e w' => ∃ v', e = .returned v' ∧ w'.ownsInts B 5 .u8 v' (l ++ mutB m) ∧ Below B w w' := by
  have I0 : Wm m B w.heap.size w (w.alloc (mtObj m)) v l := by
    refine ⟨h.alloc _, heap_alloc_new w _, fun e => ?_, by simp, below_alloc w _ B hB⟩
    have := (h.1.lt _ e).2
    omega
  have HI := hide I0
  obtain ⟨p1, p2, p3, p4, p5, _, _⟩ := may_parts hm
  clear I0 h hm
  obtain ⟨k, g, n, i, f, x⟩ := m
  unfold mV
  unfold mtObj at HI
  simp only at *
  have CF := hide (fun w => hasField_any k w)
  have CV := hide (fun w => hasValue_any k w)
  have EB : Hid (mutB ⟨k, g, n, i, f, x⟩ = [k] ++ [g] ++ [n] ++ [i] ++ (if hasF k then [f] else []) ++ (if hasV k then M.numB 9 (fold x) else [])) := rfl
  have k0 := p1.1; have k1 := p1.2; have g0 := p2.1; have g1 := p2.2; have n0 := p3.1; have n1 := p3.2; have i0 := p4.1; have i1 := p4.2; have f0 := p5.1; have f1 := p5.2
  have k00 : 0 ≤ k := by omega
  clear p1 p2 p3 p4 p5
  go_enter Tryz.func55, Tryz.ntmps55
  go_wp2_with fail
  refine (writeNumI B v l k _ HI.out.1 (by simp; omega) (by omega) (by omega) (by omega)).mono ?_
  rintro e w1 ⟨v1, rfl, hw1⟩
  have I1 := hide (HI.out.next (by simp; omega) hw1)
  have s1 : B ≤ w1.heap.size := Nat.le_trans (by simp; omega) hw1.2.1.size
  obtain ⟨c0, c1, c2, c3, c4, c5⟩ := mt_cells (m := ⟨k, g, n, i, f, x⟩) I1.out.2.1
  simp only at c0 c1 c2 c3 c4 c5
  clear HI hw1
  go_wp2_with fail
  refine (writeNumI B v1 _ g _ I1.out.1 s1 (by simp; omega) (by omega) (by omega)).mono ?_
  rintro e w2 ⟨v2, rfl, hw2⟩
  have I2 := hide (I1.out.next s1 hw2)
  have s2 : B ≤ w2.heap.size := Nat.le_trans s1 hw2.2.1.size
  clear c0 c1 c2 c3 c4 c5 hw2 I1
  obtain ⟨c0, c1, c2, c3, c4, c5⟩ := mt_cells (m := ⟨k, g, n, i, f, x⟩) I2.out.2.1
  simp only at c0 c1 c2 c3 c4 c5
  go_wp2_with fail
  refine (writeNumI B v2 _ n _ I2.out.1 s2 (by simp; omega) (by omega) (by omega)).mono ?_
  rintro e w3 ⟨v3, rfl, hw3⟩
  have I3 := hide (I2.out.next s2 hw3)
  have s3 : B ≤ w3.heap.size := Nat.le_trans s2 hw3.2.1.size
  clear c0 c1 c2 c3 c4 c5 hw3 I2
  obtain ⟨c0, c1, c2, c3, c4, c5⟩ := mt_cells (m := ⟨k, g, n, i, f, x⟩) I3.out.2.1
  simp only at c0 c1 c2 c3 c4 c5
  go_wp2_with fail
  refine (writeNumI B v3 _ i _ I3.out.1 s3 (by simp; omega) (by omega) (by omega)).mono ?_
  rintro e w4 ⟨v4, rfl, hw4⟩
  have I4 := hide (I3.out.next s3 hw4)
  have s4 : B ≤ w4.heap.size := Nat.le_trans s3 hw4.2.1.size
  clear c0 c1 c2 c3 c4 c5 hw4 I3
  obtain ⟨c0, c1, c2, c3, c4, c5⟩ := mt_cells (m := ⟨k, g, n, i, f, x⟩) I4.out.2.1
  simp only at c0 c1 c2 c3 c4 c5
  have HL4 : Hid ((l ++ [k] ++ [g] ++ [n] ++ [i]).length ≤ 1000010) := by show _ ≤ _; simp; omega
  have HE4 : Hid (mutB ⟨k, g, n, i, f, x⟩ = [k] ++ [g] ++ [n] ++ [i] ++ (if hasF k then [f] else []) ++ (if hasV k then M.numB 9 (fold x) else [])) := EB
  obtain ⟨L4, HLe⟩ : ∃ L, Hid (L = l ++ [k] ++ [g] ++ [n] ++ [i]) := ⟨_, rfl⟩
  have HLE : Hid (l ++ mutB ⟨k, g, n, i, f, x⟩ = L4 ++ (if hasF k then [f] else []) ++ (if hasV k then M.numB 9 (fold x) else [])) := by
    rw [HE4.out, HLe.out]; show _ = _; simp
  have HI4 := hide I4.out
  rw [← HLe.out] at HI4 HL4
  clear I4 EB HE4 HLe
  go_wp2_with fail
  refine (CF.out _).mono ?_
  rintro e w5 ⟨rfl, rfl⟩
  cases hF : hasF k with
  | true =>
    go_wp2_with fail
    refine (writeNumI B v4 _ f _ HI4.out.1 s4 (by have := HL4.out; omega) (by omega) (by omega)).mono ?_
    rintro e w6 ⟨v6, rfl, hw6⟩
    have I6 := hide (HI4.out.next s4 hw6)
    have s6 : B ≤ w6.heap.size := Nat.le_trans s4 hw6.2.1.size
    clear c0 c1 c2 c3 c4 c5 hw6 HI4
    obtain ⟨c0, c1, c2, c3, c4, c5⟩ := mt_cells (m := ⟨k, g, n, i, f, x⟩) I6.out.2.1
    simp only at c0 c1 c2 c3 c4 c5
    go_wp2_with fail
    refine (CV.out _).mono ?_
    rintro e w7 ⟨rfl, rfl⟩
    cases hV : hasV k with
    | true =>
      go_wp2_with fail
      refine (putInt_nil x _ hx0 hx1).mono ?_
      rintro e w8 ⟨a8, k8, c8, L8, rfl, hbs8, HL8, h81, h810, hb8⟩
      have hv := owns_later I6.out.1 hb8
      have s8 := Nat.le_trans s6 hb8.size
      have hb68 : Below B w w8 := I6.out.2.2.2.2.trans (hb8.mono s6)
      have HLL : Hid ((L4 ++ [f]).length + k8 ≤ 70368744177664) := by show _ ≤ _; have := HL4.out; simp; omega
      have HO8 := hide hv
      have HB8 := hide hbs8
      clear c0 c1 c2 c3 c4 c5 I6 hb8 hv hbs8
      go_wp2_with (at_builtin; refine wpList_app rfl (.tmp 39) (.tmp 42) rfl B _ (L4 ++ [f]) rfl HO8.out a8 k8 c8 L8 rfl HB8.out HLL.out s8 ?_)
      intro v9 w9 hown9 hg9 _
      have hb9 : Below B w w9 := hb68.trans (below_app HO8.out hg9 s8)
      have HO9 := hide hown9
      clear hg9 hown9
      go_wp2
      go_ret
      refine ⟨_, rfl, ?_, hb9⟩
      rw [HLE.out, hF, hV]
      have := HO9.out
      rw [HL8.out] at this
      simpa using this
    | false =>
      have HO6 := hide I6.out.1
      have HB6 := hide I6.out.2.2.2.2
      clear c0 c1 c2 c3 c4 c5 I6
      go_wp2
      go_ret
      refine ⟨_, rfl, ?_, HB6.out⟩
      rw [HLE.out, hF, hV]
      simpa using HO6.out
  | false =>
    go_wp2_with fail
    refine (CV.out _).mono ?_
    rintro e w7 ⟨rfl, rfl⟩
    cases hV : hasV k with
    | true =>
      go_wp2_with fail
      refine (putInt_nil x _ hx0 hx1).mono ?_
      rintro e w8 ⟨a8, k8, c8, L8, rfl, hbs8, HL8, h81, h810, hb8⟩
      have hv := owns_later HI4.out.1 hb8
      have s8 := Nat.le_trans s4 hb8.size
      have hb68 : Below B w w8 := HI4.out.2.2.2.2.trans (hb8.mono s4)
      have HLL : Hid (L4.length + k8 ≤ 70368744177664) := by show _ ≤ _; have := HL4.out; omega
      have HO8 := hide hv
      have HB8 := hide hbs8
      clear c0 c1 c2 c3 c4 c5 HI4 hb8 hv hbs8
      go_wp2_with (at_builtin; refine wpList_app rfl (.tmp 39) (.tmp 42) rfl B _ L4 rfl HO8.out a8 k8 c8 L8 rfl HB8.out HLL.out s8 ?_)
      intro v9 w9 hown9 hg9 _
      have hb9 : Below B w w9 := hb68.trans (below_app HO8.out hg9 s8)
      have HO9 := hide hown9
      clear hg9 hown9
      go_wp2
      go_ret
      refine ⟨_, rfl, ?_, hb9⟩
      rw [HLE.out, hF, hV]
      have := HO9.out
      rw [HL8.out] at this
      simpa using this
    | false =>
      have HO6 := hide HI4.out.1
      have HB6 := hide HI4.out.2.2.2.2
      clear c0 c1 c2 c3 c4 c5 HI4
      go_wp2
      go_ret
      refine ⟨_, rfl, ?_, HB6.out⟩
      rw [HLE.out, hF, hV]
      simpa using HO6.out
/-- A row of changes that may be read. -/
def Ms (w : World) (pa : Option Addr) (c : Nat) (ms : List Mt) : Prop :=
  ms.length = c ∧ (0 < c → ∃ b o, pa = some ⟨b, o, none⟩ ∧ ∀ i m, ms[i]? = some m →
    w.cell? ⟨b, o + i * 6, none⟩ = some (.int .i64 m.k) ∧ w.cell? ⟨b, o + i * 6 + 1, none⟩ = some (.int .i64 m.g) ∧ w.cell? ⟨b, o + i * 6 + 2, none⟩ = some (.int .i64 m.n) ∧ w.cell? ⟨b, o + i * 6 + 3, none⟩ = some (.int .i64 m.i) ∧ w.cell? ⟨b, o + i * 6 + 4, none⟩ = some (.int .i64 m.f) ∧ w.cell? ⟨b, o + i * 6 + 5, none⟩ = some (.int .i64 m.v))

theorem Ms.later {w w' : World} {B : Nat} {pa : Option Addr} {c : Nat} {ms : List Mt} (h : Ms w pa c ms) (hb : Below B w w') (hB : w.heap.size ≤ B) : Ms w' pa c ms := by
  refine ⟨h.1, fun h0 => ?_⟩
  obtain ⟨b, o, rfl, hc⟩ := h.2 h0
  refine ⟨b, o, rfl, fun i m hm => ?_⟩
  obtain ⟨c0, c1, c2, c3, c4, c5⟩ := hc i m hm
  have hlt : b < B := Nat.lt_of_lt_of_le (lt_of_cell c0) hB
  refine ⟨?_, ?_, ?_, ?_, ?_, ?_⟩
  · rw [hb.cell (p := ⟨b, o + i * 6, none⟩) hlt]; exact c0
  · rw [hb.cell (p := ⟨b, o + i * 6 + 1, none⟩) hlt]; exact c1
  · rw [hb.cell (p := ⟨b, o + i * 6 + 2, none⟩) hlt]; exact c2
  · rw [hb.cell (p := ⟨b, o + i * 6 + 3, none⟩) hlt]; exact c3
  · rw [hb.cell (p := ⟨b, o + i * 6 + 4, none⟩) hlt]; exact c4
  · rw [hb.cell (p := ⟨b, o + i * 6 + 5, none⟩) hlt]; exact c5

/-- What mut.Put writes. -/
def putB (m : Mt) : List Int := if mayB m then mutB m else []
def putsB (ms : List Mt) : List Int := (ms.map putB).flatten

theorem mutB_len (m : Mt) : (mutB m).length ≤ 15 := by
  have := (M.numB_len 9 (fold m.v)).2
  unfold mutB
  cases hasF m.k <;> cases hasV m.k <;> simp <;> omega
theorem putB_len (m : Mt) : (putB m).length ≤ 15 := by
  unfold putB
  split
  · exact mutB_len m
  · simp
theorem putsB_len (ms : List Mt) : (putsB ms).length ≤ 15 * ms.length := by
  induction ms with
  | nil => simp [putsB]
  | cons m ms ih =>
    have := putB_len m
    simp only [putsB, List.map_cons, List.flatten_cons, List.length_append, List.length_cons] at *
    omega
theorem putsB_take (ms : List Mt) (k : Nat) (m : Mt) (h : ms[k]? = some m) : putsB (ms.take (k + 1)) = putsB (ms.take k) ++ putB m := by
  obtain ⟨hk, rfl⟩ := List.getElem?_eq_some_iff.1 h
  unfold putsB
  rw [List.take_succ_eq_append_getElem hk, List.map_append, List.flatten_append]
  simp

def vOk (m : Mt) : Prop := -9223372036854775808 ≤ m.v ∧ m.v ≤ 9223372036854775807

set_option maxRecDepth 100000 in
set_option maxHeartbeats 1600000 in
theorem mutPut_some (a : Option Addr) (n cap : Nat) (l : List Int) (b o c cc : Nat) (ms : List Mt) (w : World) (h : Bs w a n cap l) (hn : n ≤ 100000) (hc : c ≤ 1000) (hp : Ms w (some ⟨b, o, none⟩) c ms) (hv : ∀ m ∈ ms, vOk m) :
    Calls Tryz.prog 18 #[.slice a n cap, .slice (some ⟨b, o, none⟩) c cc] w fun e w' => ∃ v', e = .returned v' ∧ w'.ownsInts w.heap.size 5 .u8 v' (l ++ putsB ms) ∧ Below w.heap.size w w' := by
  have HP := hide hp
  have HV := hide hv
  have HLN := hide h.1
  have HML := hide hp.1
  have HC := hide (copyRoomM a n cap (15 * c) l w h (by omega) (by omega))
  have e15 : ((15 * c : Nat) : Int) = 15 * (c : Int) := by omega
  rw [e15] at HC
  clear h hp hv e15
  go_enter Tryz.func18, Tryz.ntmps18
  go_wp2_with fail
  refine HC.out.mono ?_
  rintro e w1 ⟨rfl, hown1, hb1⟩
  clear HC
  go_wp2
  go_loopw [5, 15] (fun v i wr => ∃ k : Nat, k ≤ c ∧ i = .int .i64 k ∧ wr.ownsInts w.heap.size 5 .u8 v (l ++ putsB (ms.take k)) ∧ Below w.heap.size w wr) (fun _ i _ => c - (intOf i).toNat)
  case atStart => exact ⟨0, by omega, rfl, by simpa [putsB] using hown1, hb1⟩
  case round =>
    obtain ⟨k, hk, rfl, hown, hbel⟩ := hrel
    by_cases hlt : k < c
    · obtain ⟨m, hm⟩ : ∃ m, ms[k]? = some m := ⟨_, List.getElem?_eq_getElem (by rw [HML.out]; exact hlt)⟩
      obtain ⟨b', o', e, hcell⟩ := (HP.out.later hbel (Nat.le_refl _)).2 (by omega)
      obtain ⟨rfl, rfl⟩ : b = b' ∧ o = o' := by simpa using e
      obtain ⟨z0, z1, z2, z3, z4, z5⟩ := hcell k m hm
      have hvm := HV.out m (List.mem_of_getElem? hm)
      have HT := hide (putsB_take ms k m hm)
      have hlen := putsB_len (ms.take k)
      have hlen2 : (ms.take k).length ≤ k := by rw [List.length_take]; omega
      have HLL : Hid ((l ++ putsB (ms.take k)).length ≤ 1000000) := by show _ ≤ _; rw [List.length_append, HLN.out]; omega
      have CM := hide (fun w => may_any m w)
      have CW := hide (fun hm v l W h hB hl => mutWrite_any m hm hvm.1 hvm.2 w.heap.size v l W h hB hl)
      have HM := hide hm
      have HO := hide hown
      have HBE := hide hbel
      clear hcell e hm hlen hlen2 hvm hown hbel
      have HX := hide (fun (wr w2 : World) (hb : Below (wr.alloc (mtObj m)).heap.size (wr.alloc (mtObj m)) w2) => (hb.block _ (by simp)).trans (heap_alloc_new wr (mtObj m)))
      have HPB : Hid (putB m = if mayB m then mutB m else []) := rfl
      have HMC := hide (fun (W : World) (g : Nat) (h : W.heap[g]? = some (mtObj m)) => mt_cells h)
      obtain ⟨mB, HmB⟩ : ∃ x, Hid (x = mutB m) := ⟨_, rfl⟩
      obtain ⟨MB, HMB⟩ : ∃ x, Hid (x = mayB m) := ⟨_, rfl⟩
      rw [← HmB.out, ← HMB.out] at HPB
      rw [← HmB.out] at CW
      rw [← HMB.out] at CM CW
      obtain ⟨mk, mg, mn, mi, mf, mx⟩ := m
      unfold mV at CM CW
      unfold mtObj at HX HMC
      simp only at *
      clear HMB HmB HM
      go_wp2_with fail
      refine (CM.out _).mono ?_
      rintro e w2 ⟨rfl, hb2⟩
      have hbx : Below w.heap.size w w2 := HBE.out.trans ((below_alloc wr _ w.heap.size HBE.out.size).trans (hb2.mono (by simp; have := HBE.out.size; omega)))
      have hown2 := owns_later (HO.out.alloc _) hb2
      obtain ⟨c0, c1, c2, c3, c4, c5⟩ := HMC.out _ _ (HX.out _ _ hb2)
      have HO2 := hide hown2
      have HBX := hide hbx
      have hsx := hbx.size
      clear hbx hown2 hb2 z0 z1 z2 z3 z4 z5 HX HMC CM HO HBE
      cases MB with
      | true =>
        have H3 := hide (CW.out rfl _ _ w2 HO2.out hsx HLL.out)
        go_wp2_with fail
        refine H3.out.mono ?_
        rintro e w3 ⟨v3, rfl, ho3, hb3⟩
        have HB3 := hide (HBX.out.trans hb3)
        have HO3 := hide ho3
        clear c0 c1 c2 c3 c4 c5 H3 ho3 hb3
        go_wp2
        go_roundw
        case rel => exact ⟨k + 1, by omega, by go_num, by rw [HT.out, HPB.out]; simpa using HO3.out, HB3.out⟩
        case measure => simp [intOf]; omega
      | false =>
        clear c0 c1 c2 c3 c4 c5
        go_wp2
        go_roundw
        case rel => exact ⟨k + 1, by omega, by go_num, by rw [HT.out, HPB.out]; simpa using HO2.out, HBX.out⟩
        case measure => simp [intOf]; omega
    · obtain rfl : c = k := by omega
      rw [List.take_of_length_le (by rw [HML.out]; exact Nat.le_refl _)] at hown
      go_wp2
      go_ret
      exact ⟨_, rfl, hown, hbel⟩
set_option maxRecDepth 100000 in
theorem mutPut_none (a : Option Addr) (n cap : Nat) (l : List Int) (pa : Option Addr) (cc : Nat) (w : World) (h : Bs w a n cap l) (hn : n ≤ 100000) :
    Calls Tryz.prog 18 #[.slice a n cap, .slice pa 0 cc] w fun e w' => ∃ v', e = .returned v' ∧ w'.ownsInts w.heap.size 5 .u8 v' l ∧ Below w.heap.size w w' := by
  have HC := hide (copyRoomM a n cap 0 l w h (by omega) (by omega))
  clear h
  go_enter Tryz.func18, Tryz.ntmps18
  go_wp2_with fail
  refine HC.out.mono ?_
  rintro e w1 ⟨rfl, hown1, hb1⟩
  clear HC
  go_wp2
  refine wp_loop_rounds 1 ?_
  rw [rounds_succ]
  go_wp2
  go_ret
  exact ⟨_, rfl, hown1, hb1⟩

theorem mutPut_ms (a : Option Addr) (n cap : Nat) (l : List Int) (pa : Option Addr) (c cc : Nat) (ms : List Mt) (w : World) (h : Bs w a n cap l) (hn : n ≤ 100000) (hc : c ≤ 1000) (hp : Ms w pa c ms) (hv : ∀ m ∈ ms, vOk m) :
    Calls Tryz.prog 18 #[.slice a n cap, .slice pa c cc] w fun e w' => ∃ v', e = .returned v' ∧ w'.ownsInts w.heap.size 5 .u8 v' (l ++ putsB ms) ∧ Below w.heap.size w w' := by
  by_cases h0 : c = 0
  · subst h0
    obtain rfl : ms = [] := List.length_eq_zero_iff.1 hp.1
    have := mutPut_none a n cap l pa cc w h hn
    simpa [putsB] using this
  · obtain ⟨b, o, rfl, _⟩ := hp.2 (by omega)
    exact mutPut_some a n cap l b o c cc ms w h hn hc hp hv
end Go.Proofs.YtgpfpmocdmeldaaGreat
