/- Rows of rows of changes, as they come in; the law's cut of them. -/
import Derived.Test.YtgglokfpafbmeaaGreatRefU
namespace Go.Proofs.YtgglokfpafbmeaaGreat
open Go.ChangeShapes Go.WideShapes Go.RowKit Go.MapKept Go.ChangeMaps

/-- A row of changes, as it lies. -/
structure Sx where
  pa : Option Addr
  n : Nat
  cp : Nat
  xs : List Mq
def Sx.val (e : Sx) : Value := .slice e.pa e.n e.cp
structure Sx.OK (w : World) (e : Sx) : Prop where
  ms : Ms w e.pa e.n (e.xs.map Mq.m)
  le : e.n ≤ e.cp
  mx : e.cp ≤ maxLen
def Mss (w : World) (pa : Option Addr) (n : Nat) (es : List Sx) : Prop :=
  es.length = n ∧ (0 < n → ∃ b o, pa = some ⟨b, o, none⟩ ∧ ∀ i e, es[i]? = some e → w.cell? ⟨b, o + i, none⟩ = some e.val) ∧ ∀ e ∈ es, e.OK w
theorem cellsMqS : Tryz.prog.cellsOf 52 = 1 := by kernel_rfl

theorem open_mqss {H : Type} {enc : TypeId × Value → H} {W : World} {fuel : Nat} {held : Bool} {cs : List Value} {x : DataW H × List MemPlace}
    (h : DataW.trod enc Tryz.prog W 0 (fun _ => true) held fuel 46 cs = some x) :
    cs = [.slice none 0 0] ∨ ∃ (a : Addr) (len cap : Nat) (es : List Sx), cs = [.slice (some a) len cap] ∧ len ≤ cap ∧ cap ≤ maxLen ∧ Mss W (some a) len es := by
  rcases Deep.open_slice1 Tryz.underlying46 cellsMqS h with ⟨h0, _⟩ | ⟨a, len, cap, m, n, V, D, Pl, rfl, _, hl, hm, hmm, _, hx⟩
  · exact Or.inl h0
  · right
    simp only [if_true] at hmm
    subst hmm
    have each : ∀ i, i < m → ∃ e : Sx, W.cell? (a.add i) = some e.val ∧ e.OK W := by
      intro i hi
      obtain ⟨h1, h2⟩ := hx i hi
      rcases open_mqs h2 with h3 | ⟨a', len', cap', xs, h3, h4, h5, h6, h7⟩
      · refine ⟨⟨none, 0, 0, []⟩, ?_, ⟨rfl, fun e => absurd e (Nat.lt_irrefl _)⟩, Nat.le_refl _, Nat.zero_le _⟩
        rw [h1]; simpa [Sx.val] using h3
      · refine ⟨⟨some a', len', cap', xs⟩, ?_, h6, h4, h5⟩
        rw [h1]; simpa [Sx.val] using h3
    haveI : Inhabited Sx := ⟨⟨none, 0, 0, []⟩⟩
    obtain ⟨f, hf⟩ := Deep.choose_lt each
    refine ⟨a, len, m, (List.range len).map f, rfl, hl, hm, by simp, fun h0 => ?_, fun e he => ?_⟩
    · have hc := (hf 0 (by omega)).1
      obtain ⟨b, o, sp⟩ := a
      have hs : sp = none := by simpa [Addr.add] using World.cell?_spot hc
      subst hs
      refine ⟨b, o, rfl, fun i y hi => ?_⟩
      have hil : i < len := by
        have := (List.getElem?_eq_some_iff.1 hi).1
        simpa using this
      have hy : f i = y := by simpa [hil] using hi
      subst hy
      have := (hf i (by omega)).1
      rwa [Go.Proofs.YtgglokfpafbmeaaGreat.add_none] at this
    · obtain ⟨i, hi, rfl⟩ := List.mem_map.1 he
      exact (hf i (by have := List.mem_range.1 hi; omega)).2

theorem infoMqS : (Tryz.prog.info? 52).map (fun i => (i.zero, i.size, i.bytes)) = some (some (.slice none 0 0), 1, 24) := by kernel_rfl
/-- append(rows, row). -/
theorem run_appS (w : World) (B : Nat) (v : Value) (es : List Sx) (hown : w.ownsRow B 52 1 v es.length (es.map Sx.val)) (q : Nat) (e : Sx) (hq : w.cell? ⟨q, 0, none⟩ = some e.val) (hsz : es.length ≤ 1000) (hB : B ≤ w.heap.size) :
    ∃ v' w', (∀ ty, (Builtin.append_ #[46, 46] ty #[v, .slice (some ⟨q, 0, none⟩) 1 1]).run Tryz.prog w = .ok v' w') ∧ w'.ownsRow B 52 1 v' (es ++ [e]).length ((es ++ [e]).map Sx.val) ∧ w.grownBy w' v.ownBlock := by
  obtain ⟨i0, hi, hz0, hz1, hz2⟩ := info_parts infoMqS
  have key := fun ty => run_append_own_at (P := Tryz.prog) w B 46 ty 52 i0 _ 1 24 Tryz.underlying46 hi hz0 hz1 hz2 rfl (by decide) v es.length (es.map Sx.val) hown ⟨q, 0, none⟩ 1 1 [e.val] rfl (fun j u hj => by
    match j, hj with
    | 0, hj => simp at hj; subst hj; rw [Go.Proofs.YtgglokfpafbmeaaGreat.add_none]; exact hq
    | j + 1, hj => simp at hj) (fun u hu => by simp at hu; subst hu; rfl) (by simp only [maxLen]; omega) (by omega) hB
  obtain ⟨v', w', hrun, h2, h3, _, _⟩ := key 0
  refine ⟨v', w', fun ty => hrun, ?_, h3⟩
  rw [List.length_append, List.map_append]
  exact h2

/-- A row of short rows, made since w. -/
def CutR (w P w' : World) (v : Value) (m : Nat) : Prop := ∃ es : List Sx, w'.ownsRow w.heap.size 52 1 v es.length (es.map Sx.val) ∧ (∀ e ∈ es, e.OK P ∧ e.n ≤ 12) ∧ es.length = m
set_option maxRecDepth 100000 in
set_option maxHeartbeats 2000000 in
theorem cutC (w P : World) (pa : Option Addr) (n c : Nat) (es : List Sx) (h : Mss P pa n es) (hb0 : Below P.heap.size P w) :
    Calls Tryz.prog 24 #[.slice pa n c] w fun e w' => ∃ v, e = .returned v ∧ ∃ m, m ≤ 30 ∧ CutR w P w' v m ∧ Below w.heap.size w w' := by
  have HL : Hid (es.length = n) := h.1
  have HC : Hid (0 < n → ∃ b o, pa = some ⟨b, o, none⟩ ∧ ∀ i e, es[i]? = some e → w.cell? ⟨b, o + i, none⟩ = some e.val) := fun h0 => by
    obtain ⟨b, o, h1, h2⟩ := h.2.1 h0
    exact ⟨b, o, h1, fun i e he => same_cell hb0 (h2 i e he)⟩
  have HO := hide h.2.2
  clear h hb0
  go_enter Tryz.func24, Tryz.ntmps24
  go_wp2
  go_loopg [3, 4] 30 (fun gm v ix wr => ∃ t : Nat, gm = 30 - t ∧ t ≤ 30 ∧ t ≤ n ∧ ix = .int .i64 t ∧ Hid (CutR w P wr v t ∧ Below w.heap.size w wr))
  case atStart => exact ⟨0, rfl, by omega, by omega, rfl, ⟨[], World.ownsRow_nil _ _ _ _, fun e he => by simp at he, rfl⟩, Below.refl _ _⟩
  case round =>
    obtain ⟨t, rfl, ht, htn, rfl, HI⟩ := hrel
    have hfin : Hid (∃ m, m ≤ 30 ∧ CutR w P wr _ m ∧ Below w.heap.size w wr) := ⟨t, ht, HI.out⟩
    by_cases hlt : t < n
    · have hl1 : (t : Int) < (n : Int) := by omega
      by_cases h30 : t < 30
      · have hl2 : (t : Int) < 30 := by omega
        clear hfin
        obtain ⟨b, o, rfl, hcell⟩ := HC.out (by omega)
        obtain ⟨e, he⟩ : ∃ e, es[t]? = some e := ⟨_, List.getElem?_eq_getElem (by rw [HL.out]; exact hlt)⟩
        obtain ⟨⟨es', h1, h2, h3⟩, h4⟩ := HI.out
        have hok := HO.out e (List.mem_of_getElem? he)
        have hx := same_cell h4 (hcell t e he)
        obtain ⟨ep, en, ec, exs⟩ := e
        unfold Sx.val at hx
        simp only at hx
        obtain ⟨k, hk⟩ : ∃ k, min en 12 = k := ⟨_, rfl⟩
        have hkI : min (en : Int) 12 = (k : Int) := by omega
        have hkc : k ≤ ec := by have := hok.le; simp only at this; omega
        have hup := run_uptoM ep en ec k hkc
        have hb := below_alloc wr (.cells #[.slice ep k ec] 52) wr.heap.size (Nat.le_refl _)
        have hn := heap_alloc_new wr (.cells #[.slice ep k ec] 52)
        have hbd := (below_alloc wr (.cells #[.slice ep k ec] 52) wr.heap.size (Nat.le_refl _)).drew
        obtain ⟨v', w', hr, ho, hg⟩ := run_appS (wr.alloc (.cells #[.slice ep k ec] 52)).drew w.heap.size _ es' (by
          obtain ⟨p1, p2⟩ := h1
          refine ⟨p1, ?_⟩
          rcases p2 with p2 | ⟨g, cap, cur, p2, p3, p4, p5⟩
          · exact Or.inl p2
          · exact Or.inr ⟨g, cap, cur, p2, p3, (hbd.block _ (lt_of_heap p4)).trans p4, p5⟩) wr.heap.size ⟨ep, k, ec, exs.take k⟩ (by
          show (wr.alloc (.cells #[.slice ep k ec] 52)).cell? ⟨wr.heap.size, 0, none⟩ = _
          simp only [World.cell?, hn]; rfl) (by omega) (Nat.le_trans h4.size hbd.size)
        have hkm : Ms P ep k ((exs.take k).map Mq.m) := by
          rw [List.map_take]
          exact hok.ms.take k (by show k ≤ en; omega)
        have HN : Hid (CutR w P w' v' (t + 1) ∧ Below w.heap.size w w') := by
          refine ⟨⟨_, ho, fun y hy => ?_, by rw [List.length_append]; simp; exact h3⟩, h4.trans ((below_alloc wr (.cells #[.slice ep k ec] 52) w.heap.size h4.size).drew.grown hg (Nat.le_trans h4.size hbd.size) (fun j hj => (World.ownsRow.lt h1 j hj).1))⟩
          rcases List.mem_append.1 hy with hy | hy
          · exact h2 y hy
          · simp at hy; subst hy; exact ⟨⟨hkm, hkc, hok.mx⟩, by show k ≤ 12; omega⟩
        have HR := hide hr
        clear hr ho hg hkm h1 h2 h3 h4 hok he hcell hb hn hbd HI
        go_wp2
        go_region_law (refine step_ran_at ((wr.alloc (.cells #[.slice ep k ec] 52)).drew) rfl _ _ _ _ rfl _ (.slice (some ⟨wr.heap.size, 0, none⟩) 1 1) v' ?_ ?_ ?_ HR.out ?_; (with_reducible rfl); rfl; rfl)
        all_goals
          go_wp2
          go_roundg (30 - (t + 1))
          case measure => omega
          case rel => exact ⟨t + 1, rfl, by omega, by omega, by simp, HN⟩
      · have hl2 : ¬ (t : Int) < 30 := by omega
        clear HI
        go_wp2
        go_ret
        exact ⟨_, rfl, hfin.out⟩
    · have hl1 : ¬ (t : Int) < (n : Int) := by omega
      clear HI
      go_wp2
      go_ret
      exact ⟨_, rfl, hfin.out⟩
theorem CutR.keep {w P W W' : World} {v : Value} {m : Nat} (h : CutR w P W v m) (hk : ∀ k, v.ownBlock = some k → W'.heap[k]? = W.heap[k]?) : CutR w P W' v m := by
  obtain ⟨es, ⟨p1, p2⟩, h2, h3⟩ := h
  refine ⟨es, ⟨p1, ?_⟩, h2, h3⟩
  rcases p2 with p2 | ⟨g, cap, cur, rfl, p3, p4, p5⟩
  · exact Or.inl p2
  · exact Or.inr ⟨g, cap, cur, rfl, p3, (hk g rfl).trans p4, p5⟩
theorem CutR.at {w P W : World} {v : Value} {m : Nat} (h : CutR w P W v m) : ∃ pa c, v = .slice pa m c ∧ ∀ t, t < m → ∃ b e, pa = some ⟨b, 0, none⟩ ∧ W.cell? ⟨b, t, none⟩ = some (Sx.val e) ∧ e.OK P ∧ e.n ≤ 12 := by
  obtain ⟨es, h1, h2, h3⟩ := h
  have h1' := h1
  obtain ⟨p1, p2⟩ := h1
  rcases p2 with ⟨rfl, hn⟩ | ⟨g, cap, cur, rfl, p3, p4, p5⟩
  · exact ⟨none, 0, by rw [← h3, hn], fun t ht => by omega⟩
  · refine ⟨_, cap, by rw [h3], fun t ht => ?_⟩
    obtain ⟨e, he⟩ : ∃ e, es[t]? = some e := ⟨_, List.getElem?_eq_getElem (by omega)⟩
    have := World.ownsRow.cells h1' (g := g) rfl t e.val (by rw [List.getElem?_map, he]; rfl)
    rw [Go.Proofs.YtgglokfpafbmeaaGreat.add_none, Nat.zero_add] at this
    exact ⟨g, e, rfl, this, h2 e (List.mem_of_getElem? he)⟩
theorem CutR.lt {w P W : World} {v : Value} {m : Nat} (h : CutR w P W v m) : ∀ k, v.ownBlock = some k → w.heap.size ≤ k ∧ k < W.heap.size := by
  obtain ⟨es, h1, h2, h3⟩ := h
  exact World.ownsRow.lt h1
end Go.Proofs.YtgglokfpafbmeaaGreat
