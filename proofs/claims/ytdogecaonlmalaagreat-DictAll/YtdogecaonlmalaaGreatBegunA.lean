/- Facts that begun's proof uses. -/
import Derived.Test.YtdogecaonlmalaaGreatDisk4
import Derived.Lib.SlBytesConst
namespace Go.Proofs.YtdogecaonlmalaaGreat
open Go.RowKit

theorem put300 (w : World) : Calls Tryz.prog 57 #[.slice none 0 0, .int .u64 300] w fun e w' => ∃ a c, e = .returned (.slice a 2 c) ∧ Bs w' a 2 c [172, 2] ∧ Below w.heap.size w w' := by
  have := put_nil 300 w (by omega)
  refine Calls.mono (show Calls Tryz.prog 57 #[.slice none 0 0, .int .u64 300] w _ from this) ?_
  rintro e w1 ⟨a, k, c, L, rfl, hb, HL, _, _, hbel⟩
  have e : L = [172, 2] := by rw [HL.out]; decide
  subst e
  obtain rfl : k = 2 := hb.1.symm
  exact ⟨a, c, rfl, hb, hbel⟩

theorem get300 (a : Option Addr) (c : Nat) (w : World) (h : Bs w a 2 c [172, 2]) : Calls Tryz.prog 56 #[.slice a 2 c] w fun e w' => e = .returned (.tuple #[.int .u64 300, .int .i64 2, .int .i64 0]) ∧ w' = w := by
  refine (get_any a 2 c _ w h).mono ?_
  rintro e w1 ⟨rfl, rfl⟩
  exact ⟨ret_3 (by decide) (by decide) (by decide), rfl⟩

def FB : List Int := [2, 196, 0, 38, 1, 97, 98]

theorem putAB (b1 b0 : Nat) (w : World) (h1 : w.cell? ⟨b1, 0, none⟩ = some (.slice (some ⟨b0, 0, none⟩) 2 2)) (h : Bs w (some ⟨b0, 0, none⟩) 2 2 [97, 98]) :
    Calls Tryz.prog 59 #[.slice none 0 0, .slice (some ⟨b1, 0, none⟩) 1 1] w fun e w' => ∃ g c, e = .returned (.slice (some ⟨g, 0, none⟩) 7 c) ∧ w'.heap.size > g ∧ Bs w' (some ⟨g, 0, none⟩) 7 c FB ∧ Below w.heap.size w w' := by
  refine (framePut_some none 0 0 [] b1 0 1 1 [[97, 98]] w (Bs.nil _) (by omega) rfl (by omega) (by decide) ?_ (by decide)).mono ?_
  · intro i hi
    obtain rfl : i = 0 := by omega
    exact ⟨_, _, _, h1, h⟩
  · rintro e w1 ⟨v, rfl, ho, hb⟩
    have e : ([] ++ framesB [[97, 98]] : List Int) = FB := by decide
    rw [e] at ho
    obtain ⟨g, c, rfl, hg, hbs⟩ := owns_shape ho (by decide)
    exact ⟨g, c, rfl, (ho.1.lt g rfl).2, hbs, hb⟩

theorem getAB (g c : Nat) (w : World) (h : Bs w (some ⟨g, 0, none⟩) 7 c FB) :
    Calls Tryz.prog 58 #[.slice (some ⟨g, 0, none⟩) 7 c] w fun e w' => ∃ g' c', e = .returned (.tuple #[.slice (some ⟨g', 0, none⟩) 2 c', .int .i64 7, .int .i64 0]) ∧ Bs w' (some ⟨g', 0, none⟩) 2 c' [97, 98] ∧ Below w.heap.size w w' := by
  refine (frameGet_text g 0 7 c 2 1 FB w h (by decide) (by omega) (by omega) (by omega) (by omega) (by omega) (by decide)).mono ?_
  rintro e w1 ⟨g', c', rfl, _, ho, hb⟩
  have e : (FB.drop (1 + 4)).take 2 = [97, 98] := by decide
  rw [e] at ho
  obtain ⟨a, cc, ev, hbs⟩ := Bs.of_owns ho
  obtain ⟨rfl, _, rfl⟩ : a = some ⟨g', 0, none⟩ ∧ 2 = [97, 98].length ∧ cc = c' := by simpa using ev.symm
  exact ⟨g', _, rfl, hbs, hb⟩

theorem Bs.lit (w : World) (l : List Int) (mk : Nat × Nat) (hr : ∀ x ∈ l, 0 ≤ x ∧ x ≤ 255) (hn : l.length ≤ 1000) : Bs (w.alloc (.cells (l.map (Value.int .u8)).toArray 5 mk)) (some ⟨w.heap.size, 0, none⟩) l.length l.length l := by
  refine ⟨rfl, Nat.le_refl _, by omega, (fun e => by cases e), fun _ => ⟨w.heap.size, 0, rfl, fun i hi => ?_⟩, hr⟩
  have hh := heap_alloc_new w (.cells (l.map (Value.int .u8)).toArray 5 mk)
  generalize w.alloc (.cells (l.map (Value.int .u8)).toArray 5 mk) = W at hh
  simp [World.cell?, hh, hi]

def sx : ByteArray := ⟨#[120]⟩
def sf : ByteArray := ⟨#[102]⟩
def hello : List Int := [104, 101, 108, 108, 111]
def bang : List Int := [33, 33]

theorem S2.later {B g : Nat} {s : ByteArray} {l : List Int} {w w' : World} (h : S2 B g s l w) (hb : Below w.heap.size w w') : S2 B g s l w' := by
  obtain ⟨m1, m2, v, v2, h1, h2, h3, h4, h5, h6, h7, h8, h9⟩ := h
  exact ⟨m1, m2, v, v2, (hb.block _ (lt_of_heap h1)).trans h1, (hb.block _ (lt_of_heap h2)).trans h2, (hb.block _ (lt_of_heap h3)).trans h3, h4, h5, h6, owns_later h7 hb, owns_later h8 hb, h9⟩

/-- The store behind its Put. -/
def St (gS mb : Nat) (v : Value) (W : World) : Prop := W.heap[gS]? = some (stObj 0 2 (some mb)) ∧ W.heap[mb]? = some (.map #[⟨.string sx, v, 0⟩] 1)

theorem St.tch {gS mb : Nat} {v : Value} {W W' : World} {S : Nat → Prop} (h : St gS mb v W) (ht : Tch S W W') (h1 : ¬ S gS) (h2 : ¬ S mb) : St gS mb v W' := ⟨ht.old h.1 h1, ht.old h.2 h2⟩
theorem St.later {gS mb : Nat} {v : Value} {W W' : World} (h : St gS mb v W) (hb : Below W.heap.size W W') : St gS mb v W' := ⟨(hb.block _ (lt_of_heap h.1)).trans h.1, (hb.block _ (lt_of_heap h.2)).trans h.2⟩

theorem begin3 (w3 : World) (o1 o2 o3 : Obj) :
    (((w3.alloc o1).alloc o2).alloc o3).heap[w3.heap.size]? = some o1 ∧ (((w3.alloc o1).alloc o2).alloc o3).heap[w3.heap.size + 1]? = some o2 ∧ Below w3.heap.size w3 (((w3.alloc o1).alloc o2).alloc o3) := by
  refine ⟨?_, ?_, ((below_alloc w3 _ _ (Nat.le_refl _)).trans (below_alloc _ _ _ (by simp))).trans (below_alloc _ _ _ (by simp; omega))⟩
  · rw [Below.heap_alloc _ _ _ (by simp; omega), Below.heap_alloc _ _ _ (by simp)]; exact heap_alloc_new w3 _
  · rw [Below.heap_alloc _ _ _ (by simp)]
    have := heap_alloc_new (w3.alloc o1) o2
    simpa using this

theorem conv_2 (g c : Nat) (x y : Int) (W : World) (h : Bs W (some ⟨g, 0, none⟩) 2 c [x, y]) : (convert 112 9 (.slice (some ⟨g, 0, none⟩) 2 c)).run Tryz.prog W = .ok (.string (strOfNums [x, y])) W := by
  obtain ⟨b, o, e, hc⟩ := h.2.2.2.2.1 (by omega)
  obtain ⟨rfl, rfl⟩ : g = b ∧ 0 = o := by simpa using e
  exact run_convert_bytes_arg (P := Tryz.prog) W 112 5 Tryz.underlying112 Tryz.underlying5 g 0 2 c [x, y] rfl hc 9 Tryz.underlying9

theorem conv_ab (g c : Nat) (W : World) (h : Bs W (some ⟨g, 0, none⟩) 2 c [97, 98]) : (convert 112 9 (.slice (some ⟨g, 0, none⟩) 2 c)).run Tryz.prog W = .ok (.string ⟨#[97, 98]⟩) W := conv_2 g c 97 98 W h

theorem conv_hello (g : Nat) (W : World) (h : Bs W (some ⟨g, 0, none⟩) 6 6 [104, 101, 108, 108, 111, 33]) : (convert 112 9 (.slice (some ⟨g, 0, none⟩) 6 6)).run Tryz.prog W = .ok (.string ⟨#[104, 101, 108, 108, 111, 33]⟩) W := by
  obtain ⟨b, o, e, hc⟩ := h.2.2.2.2.1 (by omega)
  obtain ⟨rfl, rfl⟩ : g = b ∧ 0 = o := by simpa using e
  exact run_convert_bytes_arg (P := Tryz.prog) W 112 5 Tryz.underlying112 Tryz.underlying5 g 0 6 6 [104, 101, 108, 108, 111, 33] rfl hc 9 Tryz.underlying9

theorem cells2 {w : World} {g : Nat} {x y : Value} {T : TypeId} (h : w.heap[g]? = some (.cells #[x, y] T (0, 0))) : w.cell? ⟨g, 0, none⟩ = some x ∧ w.cell? ⟨g, 1, none⟩ = some y := by
  refine ⟨?_, ?_⟩ <;> simp [World.cell?, h]

theorem of_12 (w : World) : Calls Tryz.prog 70 #[.slice (some ⟨w.heap.size + 1 + 1, 0, none⟩) 2 2] (((w.alloc (.cells #[.int .u8 1] 5)).alloc (.cells #[.int .u8 2] 5)).alloc (.cells #[.slice (some ⟨w.heap.size, 0, none⟩) 1 1, .slice (some ⟨w.heap.size + 1, 0, none⟩) 1 1] 112)) fun e w' => e = .returned (.int .u32 393220) ∧ Below w.heap.size w w' := by
  have hb1 : Bs ((w.alloc (.cells #[.int .u8 1] 5)).alloc (.cells #[.int .u8 2] 5)) (some ⟨w.heap.size, 0, none⟩) 1 1 [1] := (Bs.one w 1 (by omega)).later (below_alloc _ _ _ (Nat.le_refl _)) (Nat.le_refl _)
  have hb2 : Bs ((w.alloc (.cells #[.int .u8 1] 5)).alloc (.cells #[.int .u8 2] 5)) (some ⟨w.heap.size + 1, 0, none⟩) 1 1 [2] := by
    have := Bs.one (w.alloc (.cells #[.int .u8 1] 5)) 2 (by omega)
    simpa using this
  have hs : ((w.alloc (.cells #[.int .u8 1] 5)).alloc (.cells #[.int .u8 2] 5)).heap.size = w.heap.size + 1 + 1 := by simp
  have hB : Below w.heap.size w ((w.alloc (.cells #[.int .u8 1] 5)).alloc (.cells #[.int .u8 2] 5)) := (below_alloc w _ _ (Nat.le_refl _)).trans (below_alloc _ _ _ (by simp))
  generalize (w.alloc (.cells #[.int .u8 1] 5)).alloc (.cells #[.int .u8 2] 5) = W at *
  have hh := heap_alloc_new W (.cells #[.slice (some ⟨w.heap.size, 0, none⟩) 1 1, .slice (some ⟨w.heap.size + 1, 0, none⟩) 1 1] 112)
  have hBa := below_alloc W (.cells #[.slice (some ⟨w.heap.size, 0, none⟩) 1 1, .slice (some ⟨w.heap.size + 1, 0, none⟩) 1 1] 112) W.heap.size (Nat.le_refl _)
  obtain ⟨k0, k1⟩ := cells2 hh
  rw [hs] at k0 k1
  have hP : Ps (W.alloc (.cells #[.slice (some ⟨w.heap.size, 0, none⟩) 1 1, .slice (some ⟨w.heap.size + 1, 0, none⟩) 1 1] 112)) (some ⟨w.heap.size + 1 + 1, 0, none⟩) 2 [[1], [2]] := by
    refine ⟨rfl, fun _ => ⟨_, 0, rfl, fun i hi => ?_⟩⟩
    rcases (show i = 0 ∨ i = 1 by omega) with rfl | rfl
    · exact ⟨_, _, _, k0, hb1.later hBa (Nat.le_refl _)⟩
    · exact ⟨_, _, _, k1, hb2.later hBa (Nat.le_refl _)⟩
  refine (of_any _ 2 2 _ _ hP (by omega)).mono ?_
  rintro e w' ⟨rfl, hb⟩
  exact ⟨ret_int (by decide), hB.trans ((hBa.mono hB.size).trans (hb.mono (Nat.le_trans hB.size hBa.size)))⟩

theorem of_2 (w : World) : Calls Tryz.prog 70 #[.slice (some ⟨w.heap.size + 1, 0, none⟩) 1 1] ((w.alloc (.cells #[.int .u8 1, .int .u8 2] 5)).alloc (.cells #[.slice (some ⟨w.heap.size, 0, none⟩) 2 2] 112)) fun e w' => e = .returned (.int .u32 393220) ∧ Below w.heap.size w w' := by
  have hb1 : Bs (w.alloc (.cells #[.int .u8 1, .int .u8 2] 5)) (some ⟨w.heap.size, 0, none⟩) 2 2 [1, 2] := Bs.lit w [1, 2] (0, 0) (by decide) (by decide)
  have hB := below_alloc w (.cells #[.int .u8 1, .int .u8 2] 5) w.heap.size (Nat.le_refl _)
  have hs : (w.alloc (.cells #[.int .u8 1, .int .u8 2] 5)).heap.size = w.heap.size + 1 := by simp
  generalize w.alloc (.cells #[.int .u8 1, .int .u8 2] 5) = W at *
  have hP := Ps.one hb1
  rw [hs] at hP
  have hBa := below_alloc W (.cells #[.slice (some ⟨w.heap.size, 0, none⟩) 2 2] 112) W.heap.size (Nat.le_refl _)
  refine (of_any _ 1 1 _ _ hP (by omega)).mono ?_
  rintro e w' ⟨rfl, hb⟩
  exact ⟨ret_int (by decide), hB.trans ((hBa.mono hB.size).trans (hb.mono (Nat.le_trans hB.size hBa.size)))⟩

theorem of_0 (w : World) : Calls Tryz.prog 70 #[.slice none 0 0] w fun e w' => e = .returned (.int .u32 1) ∧ Below w.heap.size w w' := by
  refine (of_any none 0 0 [] w ⟨rfl, fun h => absurd h (by omega)⟩ (by omega)).mono ?_
  rintro e w' ⟨rfl, hb⟩
  exact ⟨ret_int (by decide), hb⟩

theorem has_x (w : World) (gS mb : Nat) (v : Value) (h : St gS mb v w) : Calls Tryz.prog 69 #[.pointer (some ⟨gS, 0, none⟩), .slice (some ⟨w.heap.size, 0, none⟩) 1 1] (w.alloc (.cells #[.string ⟨#[120]⟩] 9)) fun e w' => e = .returned (.bool true) ∧ Below w.heap.size w w' := by
  have hb := below_alloc w (.cells #[.string ⟨#[120]⟩] 9) w.heap.size (Nat.le_refl _)
  have h1 := h.later hb
  have hc := cell_one_new w (.string ⟨#[120]⟩) 9 0 _ rfl
  rw [Go.Proofs.YtdogecaonlmalaaGreat.add_none] at hc
  refine (storeHas_one gS mb w.heap.size 2 ⟨#[120]⟩ v _ h1.1 h1.2 hc).mono ?_
  rintro e w' ⟨rfl, hb'⟩
  exact ⟨rfl, hb.trans (hb'.mono hb.size)⟩

end Go.Proofs.YtdogecaonlmalaaGreat
