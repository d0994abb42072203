/- The document's state copied. The document's state told changes. -/
import Derived.Test.YtiofkcmdgijjoaaGreatRefT
namespace Go.Proofs.YtiofkcmdgijjoaaGreat
open Go.RowKit Go.MapKept Go.ChangeMaps

/-- One spot's list laid anew. -/
theorem copy_step {w wr : World} {O : Nat → Prop} {y : Nat} {a : Ab} (h : Rf wr O y a) (hO : ∀ k, wr.heap.size ≤ k → O k) (g n i : Nat) (hg : g < 4) (hn : n < 2) (hi : i < 24) (hb : Below w.heap.size w wr) (hy : w.heap.size ≤ y) :
    ∃ la ll lc l2 c2 W1, wr.cell? ⟨y, g * 912 + n * 456 + i * 19 + 2, none⟩ = some (.slice la ll lc) ∧ wr.frozen? ⟨y, g * 912 + n * 456 + i * 19 + 2, none⟩ = false ∧
      (∀ ty, (Builtin.append_ #[29, 29] ty #[.slice none 0 0, .slice la ll lc]).run Tryz.prog wr.drew = .ok (.slice l2 ll c2) W1) ∧ W1.cell? ⟨y, g * 912 + n * 456 + i * 19 + 2, none⟩ = some (.slice la ll lc) ∧ W1.frozen? ⟨y, g * 912 + n * 456 + i * 19 + 2, none⟩ = false ∧
      Hid (Rf (W1.setCell ⟨y, g * 912 + n * 456 + i * 19 + 2, none⟩ (.slice l2 ll c2)) O y a ∧ Below w.heap.size w (W1.setCell ⟨y, g * 912 + n * 456 + i * 19 + 2, none⟩ (.slice l2 ll c2)) ∧ ∀ k, (W1.setCell ⟨y, g * 912 + n * 456 + i * 19 + 2, none⟩ (.slice l2 ll c2)).heap.size ≤ k → O k) := by
  obtain ⟨c, lv, hB, hS, hR⟩ := h.dat
  have hκ : InK (kN g n i hg hn hi) := ⟨by show (0 : Int) ≤ (g : Int); omega, by show (g : Int) < 4; omega, by show (0 : Int) ≤ (n : Int); omega, by show (n : Int) < 2; omega, by show (0 : Int) ≤ (i : Int); omega, by show (i : Int) < 24; omega⟩
  have hp : g * 912 + n * 456 + i * 19 = offK (kN g n i hg hn hi) := by
    show _ = (g : Int).toNat * 912 + (n : Int).toNat * 456 + (i : Int).toNat * 19
    simp
  have hpl : g * 912 + n * 456 + i * 19 + 2 < 3648 := by omega
  rw [hp] at hpl ⊢
  generalize kN g n i hg hn hi = κ at *
  have hsp := hS κ hκ
  obtain ⟨hrow, hrb⟩ := hR κ hκ
  obtain ⟨la, lc, e1, hrd, _⟩ := RowI.slice hrow
  have hcell := hB.cell hpl
  rw [hsp.l, e1] at hcell
  have hD := (Below.refl wr.heap.size wr).drew
  obtain ⟨v1, W1, r1, o1, g1, p1⟩ := run_appI wr.drew (.slice none 0 0) [] (World.ownsRow_nil _ _ _ _) la (a.L κ).length lc (a.L κ) (hrd.later hD) (by have := h.ll κ; simp; omega)
  have b1 : Below wr.drew.heap.size wr.drew W1 := (Below.refl _ _).grown g1 (Nat.le_refl _) (fun k hk => by cases hk)
  have bb : Below wr.heap.size wr W1 := hD.trans (b1.mono hD.size)
  rw [List.nil_append] at o1
  obtain ⟨l2, c2, e2, _⟩ := RowI.slice o1
  subst e2
  have hB1 : Bx W1 y c := hB.at (bb.block _ hB.lt)
  obtain ⟨hB2, ht2⟩ := hB1.set hpl (.slice l2 (a.L κ).length c2)
  have hj : ∀ j, (Value.slice l2 (a.L κ).length c2).ownBlock = some j → wr.heap.size ≤ j := fun j hj => by
    rcases p1 with e | e
    · rw [e] at hj; cases hj
    · rw [e] at hj; cases hj; exact hD.size
  have ht : Tch (fun k => k = y) wr (W1.setCell ⟨y, offK κ + 2, none⟩ (.slice l2 (a.L κ).length c2)) := (Below.tch bb).trans ht2
  refine ⟨la, _, lc, l2, c2, W1, hcell, hB.free _, r1, same_cell bb hcell, hB1.free _, ?_, hb.trans (ht.below (fun k hk e => by omega) hb.size), fun k hk => hO k (Nat.le_trans ht.size hk)⟩
  refine rf_upd h hB2 hS hR ht hκ (fun o ho => by rw [updC_o (by omega)]) (fun k hk => hk) (a' := a) (fun κ' _ => ⟨rfl, rfl, rfl⟩) (l' := .slice l2 (a.L κ).length c2) ?_ (RowO.tch ht2 o1 (fun j h1 e => by have := hj j h1; have := hB.lt; omega)) (fun j h1 => ⟨hO j (hj j h1), fun e => by have := hj j h1; have := hB.lt; omega⟩) (h.ok κ) (h.ll κ)
  exact ⟨by rw [updC_o (by omega)]; exact hsp.h, by rw [updC_o (by omega)]; exact hsp.v, updC_s, fun f hf => by rw [updC_o (by omega)]; exact hsp.i f hf, fun f hf => by rw [updC_o (by omega)]; exact hsp.d f hf⟩

set_option maxRecDepth 100000 in
set_option maxHeartbeats 4000000 in
theorem refCopy {w : World} {O : Nat → Prop} {r : Nat} {a : Ab} (h : Rf w O r a) :
    Calls Tryz.prog 31 #[.pointer (some ⟨r, 0, none⟩)] w fun e w' => e = .returned (.pointer (some ⟨w.heap.size, 0, none⟩)) ∧ Rf w' (fun k => (O k ∧ k ≠ r) ∨ w.heap.size ≤ k) w.heap.size a ∧ Below w.heap.size w w' := by
  obtain ⟨c, lv, hB, hS, hR⟩ := h.dat
  obtain ⟨cur, hh, hsz, hcur⟩ := hB
  have hrg : w.rangeAt r 0 cur.toList := fun j v hv => by
    rw [Nat.zero_add]
    simp [World.cell?, hh]
    simpa using hv
  have hsi : (Tryz.prog.info? 97).map (·.size) = some cur.toList.length := by rw [infoSt]; simp [hsz]
  have hsi2 : (Tryz.prog.info? 97).map (·.size) = some cur.size := by rw [infoSt, hsz]
  have hone := bx_one hS hR hsz hcur
  have hZ := Bx.zero w
  obtain ⟨ht, hst, htt⟩ := hZ.store hsz hcur
  have hbz : Below w.heap.size w ((w.alloc (.cells stZ 97)).setCells w.heap.size 0 cur.toList) :=
    (below_alloc w _ w.heap.size (Nat.le_refl _)).trans (htt.below (fun k hk e => by omega) (by simp))
  have H0 : Hid (Rf ((w.alloc (.cells stZ 97)).setCells w.heap.size 0 cur.toList) (fun k => (O k ∧ k ≠ r) ∨ w.heap.size ≤ k) w.heap.size a ∧ Below w.heap.size w ((w.alloc (.cells stZ 97)).setCells w.heap.size 0 cur.toList) ∧ ∀ k, ((w.alloc (.cells stZ 97)).setCells w.heap.size 0 cur.toList).heap.size ≤ k → ((O k ∧ k ≠ r) ∨ w.heap.size ≤ k)) :=
    ⟨⟨Or.inr (Nat.le_refl _), ⟨c, lv, hst, hS, fun κ hκ => ⟨RowO.later (hR κ hκ).1 hbz, fun j hj => ⟨Or.inl ((hR κ hκ).2 j hj), fun e => by have := (World.ownsRow.lt (hR κ hκ).1 j hj).2; omega⟩⟩⟩, h.out, h.ok, h.ll⟩, hbz, fun k hk => Or.inr (Nat.le_trans hbz.size hk)⟩
  have Hrg := hide hrg
  have Hsi := hide (And.intro hsi hsi2)
  have Hht := hide ht
  have Hone := hide hone
  clear hrg hsi hsi2 hst htt hbz ht hone hZ hS hR hh hcur h
  go_enter Tryz.func31, Tryz.ntmps31
  go_wp2_with (first | (refine wpList_load_mid rfl 97 _ rfl r 0 rfl cur.toList _ Hrg.out Tryz.underlying97 rfl Hsi.out.1 ?_) | (refine wpList_allocSt rfl rfl ?_) | (refine wpList_store_mid rfl 97 _ _ rfl w.heap.size 0 cur rfl rfl Hht.out Hsi.out.2 Hone.out ?_))
  generalize (w.alloc (.cells stZ 97)).setCells w.heap.size 0 cur.toList = W0 at *
  clear Hrg Hsi Hht Hone
  go_loopg [4, 5, 6, 10] 4 (fun gm _ _ _ ix wr => ∃ t : Nat, gm = 4 - t ∧ t ≤ 4 ∧ ix = .int .i64 t ∧ Hid (Rf wr (fun k => (O k ∧ k ≠ r) ∨ w.heap.size ≤ k) w.heap.size a ∧ Below w.heap.size w wr ∧ ∀ k, wr.heap.size ≤ k → ((O k ∧ k ≠ r) ∨ w.heap.size ≤ k)))
  case atStart => exact ⟨0, rfl, by omega, rfl, H0⟩
  case round =>
    clear H0
    obtain ⟨g, rfl, hg, rfl, H1⟩ := hrel
    by_cases hgl : g < 4
    · have hdg : decide ((g : Int) < 4) = true := decide_eq_true (by omega)
      go_wp2_with fail
      try simp only [hdg]
      clear hdg
      go_loopg [5, 6, 13] 2 (fun gm _ _ ix wr => ∃ t : Nat, gm = 2 - t ∧ t ≤ 2 ∧ ix = .int .i64 t ∧ Hid (Rf wr (fun k => (O k ∧ k ≠ r) ∨ w.heap.size ≤ k) w.heap.size a ∧ Below w.heap.size w wr ∧ ∀ k, wr.heap.size ≤ k → ((O k ∧ k ≠ r) ∨ w.heap.size ≤ k)))
      case atStart => exact ⟨0, rfl, by omega, rfl, H1⟩
      case round =>
        clear H1
        obtain ⟨n, rfl, hn, rfl, H1⟩ := hrel
        by_cases hnl : n < 2
        · have hdn : decide ((n : Int) < 2) = true := decide_eq_true (by omega)
          go_wp2_with fail
          try simp only [hdn]
          clear hdn
          go_loopg [6, 16] 24 (fun gm _ ix wr => ∃ t : Nat, gm = 24 - t ∧ t ≤ 24 ∧ ix = .int .i64 t ∧ Hid (Rf wr (fun k => (O k ∧ k ≠ r) ∨ w.heap.size ≤ k) w.heap.size a ∧ Below w.heap.size w wr ∧ ∀ k, wr.heap.size ≤ k → ((O k ∧ k ≠ r) ∨ w.heap.size ≤ k)))
          case atStart => exact ⟨0, rfl, by omega, rfl, H1⟩
          case round =>
            clear H1
            obtain ⟨i, rfl, hi, rfl, H1⟩ := hrel
            by_cases hil : i < 24
            · obtain ⟨la, ll, lc, l2, c2, W1, hc1, hf1, hr1, hc2, hf2, HN⟩ := copy_step H1.out.1 H1.out.2.2 g n i hgl hnl hil H1.out.2.1 (Nat.le_refl _)
              have HRN := hide hr1
              have g0 : (0 : Int) ≤ (g : Int) := by omega
              have g1 : (g : Int) < 4 := by omega
              have n0 : (0 : Int) ≤ (n : Int) := by omega
              have n1 : (n : Int) < 2 := by omega
              have i0 : (0 : Int) ≤ (i : Int) := by omega
              have i1 : (i : Int) < 24 := by omega
              clear hr1 H1
              go_wp2
              go_region_law (refine step_ran_at (wr.drew) rfl _ _ _ _ rfl (.slice none 0 0) (.slice la ll lc) (.slice l2 ll c2) ?_ ?_ ?_ HRN.out ?_; (with_reducible rfl); rfl; rfl)
              all_goals
                clear HRN hc1 hf1 hc2 hf2
                go_wp2
                go_roundg (24 - (i + 1))
                case measure => omega
                case rel => exact ⟨i + 1, rfl, by omega, by simp, HN⟩
            · have hix : ¬ ((i : Nat) : Int) < 24 := by omega
              go_wp2
              go_roundg (2 - (n + 1))
              case measure => omega
              case rel => exact ⟨n + 1, rfl, by omega, by simp, H1⟩
        · have hnx : ¬ ((n : Nat) : Int) < 2 := by omega
          go_wp2
          go_roundg (4 - (g + 1))
          case measure => omega
          case rel => exact ⟨g + 1, rfl, by omega, by simp, H1⟩
    · have hgx : ¬ ((g : Nat) : Int) < 4 := by omega
      have HF := hide (And.intro H1.out.1 H1.out.2.1)
      clear H1
      go_wp2
      go_ret
      exact ⟨rfl, HF.out⟩
end Go.Proofs.YtiofkcmdgijjoaaGreat

namespace Go.Proofs.YtiofkcmdgijjoaaGreat
open Go.RowKit Go.MapKept Go.ChangeMaps

/-- What Do answers. -/
def dErr (a : Ab) (xs : List Mq) : Int := if (xs.map Mq.m).all mayB = true then (if roomB a.L (fun _ => none) xs = true then 0 else 4) else 1
/-- What lies behind Do. -/
def dQ (a : Ab) (xs : List Mq) : Ab := if (xs.map Mq.m).all mayB = true then (if roomB a.L (fun _ => none) xs = true then runQ a xs else a) else a
theorem d_form {a : Ab} {xs : List Mq} (h : (xs.map Mq.m).all mayB = false) : dErr a xs = 1 ∧ dQ a xs = a := by
  unfold dErr dQ
  rw [h]
  exact ⟨rfl, rfl⟩
theorem d_full {a : Ab} {xs : List Mq} (h : (xs.map Mq.m).all mayB = true) (h2 : roomB a.L (fun _ => none) xs = false) : dErr a xs = 4 ∧ dQ a xs = a := by
  unfold dErr dQ
  rw [h, h2]
  exact ⟨rfl, rfl⟩
theorem d_ok {a : Ab} {xs : List Mq} (h : (xs.map Mq.m).all mayB = true) (h2 : roomB a.L (fun _ => none) xs = true) : dErr a xs = 0 ∧ dQ a xs = runQ a xs := by
  unfold dErr dQ
  rw [h, h2]
  exact ⟨rfl, rfl⟩

/-- The lengths behind k changes. -/
def RmQ (a : Ab) (xs : List Mq) (k : Nat) : Prop := ∃ lg, roomB a.L (fun _ => none) xs = roomB a.L lg (xs.drop k) ∧ ∀ b, curL a.L lg b = (((runQ a (xs.take k)).L b).length : Int)
theorem rmQ_0 (a : Ab) (xs : List Mq) : RmQ a xs 0 := ⟨fun _ => none, rfl, fun _ => rfl⟩
theorem rmQ_full {a : Ab} {xs : List Mq} {k : Nat} {x : Mq} (h : RmQ a xs k) (hx : xs[k]? = some x) (hc : x.c = 3 ∧ 100 ≤ ((runQ a (xs.take k)).L x.k).length) : roomB a.L (fun _ => none) xs = false := by
  obtain ⟨lg, h1, h2⟩ := h
  rw [h1, dropMq hx, roomB, if_pos ⟨hc.1, by rw [h2]; have := hc.2; omega⟩]
theorem rmQ_next {a : Ab} {xs : List Mq} {k : Nat} {x : Mq} (h : RmQ a xs k) (hx : xs[k]? = some x) (hc : ¬ (x.c = 3 ∧ 100 ≤ ((runQ a (xs.take k)).L x.k).length)) : RmQ a xs (k + 1) := by
  obtain ⟨lg, h1, h2⟩ := h
  have hn : ¬ (x.c = 3 ∧ 100 ≤ curL a.L lg x.k) := fun e => hc ⟨e.1, by have := e.2; rw [h2] at this; omega⟩
  refine ⟨lgS a.L lg x, by rw [h1, dropMq hx, roomB, if_neg hn], fun b => ?_⟩
  rw [runQ_take a hx]
  exact (room_step (xs := []) (by rw [roomB, if_neg hn]; rfl) h2).2.2 b
theorem rmQ_end {a : Ab} {xs : List Mq} {k : Nat} (h : RmQ a xs k) (hk : xs.length ≤ k) : roomB a.L (fun _ => none) xs = true := by
  obtain ⟨lg, h1, _⟩ := h
  rw [h1, List.drop_eq_nil_of_le hk]
  rfl

/-- One state's cells stored over another one's. -/
theorem rf_over {w : World} {O P : Nat → Prop} {x y : Nat} {a b : Ab} (h : Rf w O x a) (hy : Rf w P y b) (hP : ∀ k, P k → k < w.heap.size → O k ∧ k ≠ x) :
    ∃ cur : Array Value, w.rangeAt y 0 cur.toList ∧ cur.size = 3648 ∧ w.there x 0 cur.size ∧ cur.all (·.oneCell') = true ∧ Rf (w.setCells x 0 cur.toList) O x b ∧ Tch (fun k => k = x) w (w.setCells x 0 cur.toList) := by
  obtain ⟨c, lv, hB, hS, hR⟩ := hy.dat
  have hone := fun cur hsz hcur => bx_one (w := w) (O := P) (x := y) (cur := cur) hS hR hsz hcur
  obtain ⟨cur, hh, hsz, hcur⟩ := hB
  obtain ⟨c1, lv1, hB1, _⟩ := h.dat
  obtain ⟨ht, hst, htt⟩ := hB1.store hsz hcur
  refine ⟨cur, fun j v hv => ?_, hsz, ht, hone cur hsz hcur, ⟨h.own, ⟨c, lv, hst, hS, fun κ hκ => ⟨RowO.tch htt (hR κ hκ).1 (fun j hj => ?_), fun j hj => ?_⟩⟩, hy.out, hy.ok, hy.ll⟩, htt⟩
  · rw [Nat.zero_add]
    simp [World.cell?, hh]
    simpa using hv
  · exact (hP j ((hR κ hκ).2 j hj).1 (World.ownsRow.lt (hR κ hκ).1 j hj).2).2
  · exact hP j ((hR κ hκ).2 j hj).1 (World.ownsRow.lt (hR κ hκ).1 j hj).2

set_option maxRecDepth 100000 in
set_option maxHeartbeats 4000000 in
/-- Changes, whatever they are. -/
theorem refDo {w : World} {O : Nat → Prop} {r : Nat} {a : Ab} (h : Rf w O r a) (hO : ∀ k, w.heap.size ≤ k → O k) (pa : Option Addr) (n cc : Nat) (xs : List Mq) (hm : Ms w pa n (xs.map Mq.m)) (hn : n ≤ 100000) :
    Calls Tryz.prog 19 #[.pointer (some ⟨r, 0, none⟩), .slice pa n cc] w fun e w' => e = .returned (.int .i64 (dErr a xs)) ∧ Rf w' O r (dQ a xs) ∧ Tch (fun k => k = r) w w' := by
  have HP := hide hm
  have HR := hide h
  have HOO := hide hO
  have HXL : Hid (xs.length = n) := by have := hm.1; rw [List.length_map] at this; exact this
  clear hm h hO
  go_enter Tryz.func19, Tryz.ntmps19
  go_wp2
  go_loopw [5] (fun i wr => ∃ k : Nat, k ≤ n ∧ i = .int .i64 k ∧ Hid (((xs.map Mq.m).take k).all mayB = true) ∧ Hid (Below w.heap.size w wr)) (fun i _ => n - (intOf i).toNat)
  case atStart => exact ⟨0, by omega, rfl, rfl, Below.refl _ _⟩
  case round =>
    obtain ⟨k, hk, rfl, HA, HB⟩ := hrel
    by_cases hlt : k < n
    · obtain ⟨x, hx⟩ : ∃ x, xs[k]? = some x := ⟨_, List.getElem?_eq_getElem (by rw [HXL.out]; exact hlt)⟩
      have hmx : (xs.map Mq.m)[k]? = some x.m := by rw [List.getElem?_map, hx]; rfl
      obtain ⟨b, o, rfl, hcell⟩ := (HP.out.later HB.out (Nat.le_refl _)).2 (by omega)
      obtain ⟨z0, z1, z2, z3, z4, z5⟩ := hcell k x.m hmx
      have HT := hide (all_take (p := mayB) hmx)
      rw [HA.out, Bool.true_and] at HT
      have HF : Hid (mayB x.m = false → (xs.map Mq.m).all mayB = false) := fun e => by
        rw [Bool.eq_false_iff]
        intro hall
        have := List.all_eq_true.1 hall x.m (List.mem_of_getElem? hmx)
        rw [e] at this
        cases this
      have CM := hide (fun w => refMay_any x.m w)
      clear hcell hx hmx
      cases hmb : mayB x.m with
      | true =>
        rw [hmb] at CM HT
        obtain ⟨xc, xk, xf, xv⟩ := x
        unfold mV at CM
        simp only [Mq.m] at *
        clear HF hmb HP
        go_wp2_with fail
        refine (CM.out _).mono ?_
        rintro e w2 ⟨rfl, hb2⟩
        have HB2 := hide (HB.out.trans (hb2.mono HB.out.size))
        clear hb2 HB CM z0 z1 z2 z3 z4 z5
        go_wp2
        exact ⟨⟨k + 1, by omega, by simp, HT, HB2⟩, by simp [intOf]; omega⟩
      | false =>
        have HF2 := hide (HF.out hmb)
        rw [hmb] at CM
        obtain ⟨xc, xk, xf, xv⟩ := x
        unfold mV at CM
        simp only [Mq.m] at *
        clear HF hmb HP HT
        go_wp2_with fail
        refine (CM.out _).mono ?_
        rintro e w2 ⟨rfl, hb2⟩
        have HB2 := hide (HB.out.trans (hb2.mono HB.out.size))
        clear hb2 HB CM z0 z1 z2 z3 z4 z5
        go_wp2
        go_ret
        exact ⟨by rw [(d_form HF2.out).1]; try rfl, by rw [(d_form HF2.out).2]; exact HR.out.later HB2.out, Below.tch HB2.out⟩
    · have e : (xs.map Mq.m).take k = xs.map Mq.m := List.take_of_length_le (by rw [List.length_map]; have := HXL.out; omega)
      have HA2 : Hid ((xs.map Mq.m).all mayB = true) := by have := HA.out; rw [e] at this; exact this
      clear e HA
      go_wp2_with fail
      refine (refCopy (HR.out.later HB.out)).mono ?_
      rintro e w3 ⟨rfl, h3, hb3⟩
      have hlt2 : w.heap.size ≤ wr.heap.size := HB.out.size
      have HY : Hid (wr.heap.size < w3.heap.size) := h3.lt
      have HI : Hid (Rf w3 (fun j => (O j ∧ j ≠ r) ∨ w.heap.size ≤ j) wr.heap.size (runQ a (xs.take 0)) ∧ Below w.heap.size w w3 ∧ RmQ a xs 0 ∧ wr.heap.size < w3.heap.size) := ⟨h3.wide (fun j hj _ => hj.elim Or.inl (fun e => Or.inr (Nat.le_trans hlt2 e))), HB.out.trans (hb3.mono hlt2), rmQ_0 a xs, h3.lt⟩
      have HWY : Hid (w.heap.size ≤ wr.heap.size) := hlt2
      clear hb3 h3 HB HY hlt2 hlt hk
      generalize wr.heap.size = y at *
      go_wp2
      go_loopw [7] (fun i wr => ∃ k : Nat, k ≤ n ∧ i = .int .i64 k ∧ Hid (Rf wr (fun j => (O j ∧ j ≠ r) ∨ w.heap.size ≤ j) y (runQ a (xs.take k)) ∧ Below w.heap.size w wr ∧ RmQ a xs k ∧ y < wr.heap.size)) (fun i _ => n - (intOf i).toNat)
      case atStart => exact ⟨0, by omega, rfl, HI⟩
      case round =>
        clear HI
        obtain ⟨k, hk, rfl, HI⟩ := hrel
        by_cases hlt : k < n
        · obtain ⟨x, hx⟩ : ∃ x, xs[k]? = some x := ⟨_, List.getElem?_eq_getElem (by rw [HXL.out]; exact hlt)⟩
          have hmx : (xs.map Mq.m)[k]? = some x.m := by rw [List.getElem?_map, hx]; rfl
          obtain ⟨b, o, rfl, hcell⟩ := (HP.out.later HI.out.2.1 (Nat.le_refl _)).2 (by omega)
          obtain ⟨z0, z1, z2, z3, z4, z5⟩ := hcell k x.m hmx
          have hmb : mayB x.m = true := List.all_eq_true.1 HA2.out x.m (List.mem_of_getElem? hmx)
          have CM := hide (refOne HI.out.1 x hmb)
          have HX := hide hx
          unfold mV at CM
          clear hcell hmx
          simp only [Mq.m] at z0 z1 z2 z3 z4 z5 CM
          clear HP hmb
          go_wp2_with fail
          refine CM.out.mono ?_
          rintro e w4 ⟨r1, r2, r3⟩
          clear CM z0 z1 z2 z3 z4 z5 hx
          by_cases hfl : x.c = 3 ∧ 100 ≤ ((runQ a (xs.take k)).L x.k).length
          · obtain rfl := r1 hfl
            have HD := hide (d_full HA2.out (rmQ_full HI.out.2.2.1 HX.out hfl))
            have HB4 : Hid (Below w.heap.size w w4) := HI.out.2.1.trans (r3.below (fun j hj e => by have := HWY.out; omega) HI.out.2.1.size)
            clear r1 r2 r3 HI HX hfl
            go_wp2
            go_ret
            exact ⟨by rw [HD.out.1]; try rfl, by rw [HD.out.2]; exact HR.out.later HB4.out, Below.tch HB4.out⟩
          · obtain ⟨rfl, r4⟩ := r2 hfl
            have HB4 : Hid (Below w.heap.size w w4) := HI.out.2.1.trans (r3.below (fun j hj e => by have := HWY.out; omega) HI.out.2.1.size)
            have HI4 : Hid (Rf w4 (fun j => (O j ∧ j ≠ r) ∨ w.heap.size ≤ j) y (runQ a (xs.take (k + 1))) ∧ Below w.heap.size w w4 ∧ RmQ a xs (k + 1) ∧ y < w4.heap.size) := by
              refine ⟨?_, HB4.out, rmQ_next HI.out.2.2.1 HX.out hfl, Nat.lt_of_lt_of_le HI.out.2.2.2 r3.size⟩
              rw [runQ_take a HX.out]
              exact r4.wide (fun j hj _ => hj.elim id (fun e => Or.inr (Nat.le_trans HI.out.2.1.size e)))
            clear r1 r2 r3 r4 HI HX hfl HB4
            go_wp2
            exact ⟨⟨k + 1, by omega, by simp, HI4⟩, by simp [intOf]; omega⟩
        · have e : xs.take k = xs := List.take_of_length_le (by have := HXL.out; omega)
          have hI := HI.out
          rw [e] at hI
          have HD := hide (d_ok HA2.out (rmQ_end hI.2.2.1 (by have := HXL.out; omega)))
          have hrl := HR.out.lt
          obtain ⟨cur, hrg, hsz, hth, hone, hfin, htc⟩ := rf_over (HR.out.later hI.2.1) hI.1 (fun j hj hl => hj.elim id (fun e => ⟨HOO.out j e, by omega⟩))
          have hsi : (Tryz.prog.info? 97).map (·.size) = some cur.toList.length := by rw [infoSt]; simp [hsz]
          have hsi2 : (Tryz.prog.info? 97).map (·.size) = some cur.size := by rw [infoSt, hsz]
          have Hrg := hide hrg
          have Hsi := hide (And.intro hsi hsi2)
          have Hht := hide hth
          have Hone := hide hone
          have HF := hide (And.intro hfin ((Below.tch hI.2.1).trans htc))
          clear hI HI e hrl hrg hsz hth hone hfin htc hsi hsi2
          go_wp2_with (first | (refine wpList_load_mid rfl 97 _ rfl y 0 rfl cur.toList _ Hrg.out Tryz.underlying97 rfl Hsi.out.1 ?_) | (refine wpList_store_mid rfl 97 _ _ rfl r 0 cur rfl rfl Hht.out Hsi.out.2 Hone.out ?_))
          go_ret
          exact ⟨by rw [HD.out.1]; try rfl, by rw [HD.out.2]; exact HF.out.1, HF.out.2⟩
end Go.Proofs.YtiofkcmdgijjoaaGreat
