/- frame.All of whatever bytes: a contract. -/
import Derived.Test.YtjkfobgeklnblaaFrameM
namespace Go.Proofs.Ytjkfobgeklnblaa
open Go.RowKit

/-- What frame.All reads (f: at most so many frames): the texts, how far, the error's number. -/
def allF : Nat → List Int → List (List Int) × Nat × Int
  | 0, _ => ([], 0, 0)
  | f + 1, l => if l = [] then ([], 0, 0) else if (getF l).2.2 ≠ 0 then ([], 0, (getF l).2.2) else ((getF l).1 :: (allF f (l.drop (getF l).2.1)).1, (getF l).2.1 + (allF f (l.drop (getF l).2.1)).2.1, (allF f (l.drop (getF l).2.1)).2.2)

theorem allF_nil (f : Nat) : allF f [] = ([], 0, 0) := by cases f <;> simp [allF]
theorem allF_err (f : Nat) (l : List Int) (h : l ≠ []) (he : (getF l).2.2 ≠ 0) : allF (f + 1) l = ([], 0, (getF l).2.2) := by
  simp only [allF]; rw [if_neg h, if_pos he]
theorem allF_ok (f : Nat) (l : List Int) (h : l ≠ []) (he : (getF l).2.2 = 0) : allF (f + 1) l = ((getF l).1 :: (allF f (l.drop (getF l).2.1)).1, (getF l).2.1 + (allF f (l.drop (getF l).2.1)).2.1, (allF f (l.drop (getF l).2.1)).2.2) := by
  simp only [allF]; rw [if_neg h, if_neg (by simpa using he)]

theorem Bs.but {w w' : World} {a : Option Addr} {n c : Nat} {l : List Int} {row : Option Nat} (h : Bs w a n c l) (hg : w.grownBy w' row) (hne : ∀ ad, a = some ad → some ad.block ≠ row) : Bs w' a n c l := by
  obtain ⟨h1, h2, h3, h4, h5, h6⟩ := h
  refine ⟨h1, h2, h3, h4, fun hn => ?_, h6⟩
  obtain ⟨b, o, rfl, hc⟩ := h5 hn
  exact ⟨b, o, rfl, fun i hi => hg.cell (hc i hi) (hne ⟨b, o, none⟩ rfl)⟩

/-- No bytes of these lie in the row's own block. -/
def Apart (ps : List (Option Addr × Nat × Nat)) (row : Option Nat) : Prop := ∀ i, i < ps.length → ∀ ad, (ps.getD i (none, 0, 0)).1 = some ad → some ad.block ≠ row
/-- All their bytes lie below B. -/
def Under (ps : List (Option Addr × Nat × Nat)) (B : Nat) : Prop := ∀ i, i < ps.length → ∀ ad, (ps.getD i (none, 0, 0)).1 = some ad → ad.block < B

theorem Bss.but {w w' : World} {ps : List (Option Addr × Nat × Nat)} {ls : List (List Int)} {row : Option Nat} (h : Bss w ps ls) (hg : w.grownBy w' row) (ha : Apart ps row) : Bss w' ps ls :=
  ⟨h.1, fun i hi => (h.2 i hi).but hg (ha i hi)⟩

theorem getD_snoc {ps : List (Option Addr × Nat × Nat)} {p : Option Addr × Nat × Nat} {i : Nat} (hi : i < (ps ++ [p]).length) : (i < ps.length ∧ (ps ++ [p]).getD i (none, 0, 0) = ps.getD i (none, 0, 0)) ∨ (i = ps.length ∧ (ps ++ [p]).getD i (none, 0, 0) = p) := by
  rw [List.length_append, List.length_singleton] at hi
  by_cases hlt : i < ps.length
  · exact Or.inl ⟨hlt, by simp only [List.getD_eq_getElem?_getD]; rw [List.getElem?_append_left hlt]⟩
  · obtain rfl : i = ps.length := by omega
    exact Or.inr ⟨rfl, by simp⟩

theorem wpList_appP2 {w : World} {ops : Array Oper} {rest : List Oper} {o : Oper} {a : Act} {Q : Exit → Act → World → Prop} (hgd : o.guard = none) (s x : Operand)
    (ho : o.op = .call { callee := .builtin .append, args := #[s, x], argTypes := #[46, 46] })
    (B : Nat) (v : Value) (ps : List (Option Addr × Nat × Nat)) (hs : a.eval s = v) (hown : OwnP w B v ps) (q : Nat) (p : Option Addr × Nat × Nat) (hx : a.eval x = .slice (some ⟨q, 0, none⟩) 1 1) (hq : w.cell? ⟨q, 0, none⟩ = some (sv p)) (hsz : ps.length ≤ 1000000000000) (hB : B ≤ w.heap.size)
    (h : ∀ v' w', OwnP w' B v' (ps ++ [p]) → w.grownBy w' v.ownBlock → (v'.ownBlock = v.ownBlock ∨ v'.ownBlock = some w.heap.size) → wpList Try.prog ops Q rest (a.put o.dst v') w') :
    wpList Try.prog ops Q (o :: rest) a w := by
  obtain ⟨i0, hi, hz0, hz1, hz2⟩ := info_parts infoP
  refine wpList_append_own_at w hgd s x 46 ho B 23 i0 (.slice none 0 0) 1 24 Try.underlying46 hi hz0 hz1 hz2 rfl (by decide) v ps.length (ps.map sv) hs hown ⟨q, 0, none⟩ 1 1 [sv p] hx rfl ?_ (by simp [sv, Value.oneCell']) (by simp only [maxLen]; omega) (by omega) hB ?_
  · intro j u hj
    have : j = 0 := by
      cases j with
      | zero => rfl
      | succ j => simp at hj
    subst this
    simp at hj
    subst hj
    rw [Go.Proofs.Ytjkfobgeklnblaa.add_none]
    exact hq
  · intro v' w' h2 h3 _ h5
    refine h v' w' ?_ h3 h5
    unfold OwnP
    rw [List.length_append, List.map_append]
    exact h2

/-- What the loop of frame.All keeps. -/
structure AllSt (w : World) (l : List Int) (N at' : Nat) (v : Value) (wr : World) : Prop where
  atk : at' ≤ N
  bel : Below w.heap.size w wr
  own : ∃ ps ls f, OwnP wr w.heap.size v ps ∧ ps.length ≤ at' ∧ Bss wr ps ls ∧ Apart ps v.ownBlock ∧ Under ps wr.heap.size ∧ (l.drop at').length ≤ f ∧ allF N l = (ls ++ (allF f (l.drop at')).1, at' + (allF f (l.drop at')).2.1, (allF f (l.drop at')).2.2)

theorem AllSt.start (w : World) (l : List Int) (N : Nat) (hl : l.length = N) : AllSt w l N 0 (.slice none 0 0) w :=
  ⟨by omega, Below.refl _ _, [], [], N, OwnP.nil _ _, by simp, Bss.nil _, fun i hi => absurd hi (by simp), fun i hi => absurd hi (by simp), by simp [hl], by simp⟩

/-- One text more. -/
theorem AllSt.step {w wr w1 w2 : World} {l : List Int} {N at' f : Nat} {v v2 : Value} {ps : List (Option Addr × Nat × Nat)} {ls : List (List Int)} {a' : Option Addr} {k c : Nat} {o1 : Obj}
    (hN : l.length = N) (hat : at' < N) (hbel : Below w.heap.size w wr) (hps : ps.length ≤ at') (hr : ∀ x ∈ l, 0 ≤ x ∧ x ≤ 255)
    (hbss : Bss wr ps ls) (hap : Apart ps v.ownBlock) (hun : Under ps wr.heap.size) (hf : (l.drop at').length ≤ f) (hall : allF N l = (ls ++ (allF f (l.drop at')).1, at' + (allF f (l.drop at')).2.1, (allF f (l.drop at')).2.2))
    (hown0 : OwnP wr w.heap.size v ps) (he : (getF (l.drop at')).2.2 = 0) (hbs : Bs w1 a' k c (getF (l.drop at')).1) (hnew : ∀ ad, a' = some ad → wr.heap.size ≤ ad.block ∧ ad.block < w1.heap.size) (hb1 : Below wr.heap.size wr w1)
    (hown : OwnP w2 w.heap.size v2 (ps ++ [(a', k, c)])) (hg : (w1.alloc o1).grownBy w2 v.ownBlock) (hv2 : v2.ownBlock = v.ownBlock ∨ v2.ownBlock = some (w1.heap.size + 1)) : AllSt w l N (at' + (getF (l.drop at')).2.1) v2 w2 := by
  have hrd : ∀ x ∈ l.drop at', 0 ≤ x ∧ x ≤ 255 := fun x hx => hr x (List.mem_of_mem_drop hx)
  have hfa := getF_facts (l.drop at') hrd
  have htook : 5 ≤ (getF (l.drop at')).2.1 ∧ (getF (l.drop at')).2.1 ≤ N - at' := by
    rcases hfa with ⟨_, q1, q2⟩ | ⟨q, _, _⟩
    · rw [List.length_drop, hN] at q2; exact ⟨q1, q2⟩
    · exact absurd he q
  have hlt : ∀ g, v.ownBlock = some g → w.heap.size ≤ g ∧ g < wr.heap.size := fun g hg => hown0.lt g hg
  have hba := below_alloc w1 o1 w1.heap.size (Nat.le_refl _)
  have hs1 : wr.heap.size ≤ w1.heap.size := hb1.size
  have hs2 : (w1.alloc o1).heap.size = w1.heap.size + 1 := by simp
  have hs3 := hg.size
  refine ⟨by omega, ?_, ps ++ [(a', k, c)], ls ++ [(getF (l.drop at')).1], f - 1, hown, by simp; omega, ?_, ?_, ?_, ?_, ?_⟩
  · refine ((hbel.trans (hb1.mono hbel.size)).trans (below_alloc w1 o1 _ (Nat.le_trans hbel.size hs1))).grown hg ?_ (fun g hg => (hlt g hg).1)
    have := hbel.size; omega
  · have h1 : Bss (w1.alloc o1) (ps ++ [(a', k, c)]) (ls ++ [(getF (l.drop at')).1]) := ((hbss.later hb1 (Nat.le_refl _)).snoc hbs).later hba (Nat.le_refl _)
    refine h1.but hg fun i hi ad had => ?_
    rcases getD_snoc hi with ⟨hlt', e⟩ | ⟨_, e⟩
    · rw [e] at had; exact hap i hlt' ad had
    · rw [e] at had
      intro e'
      have q1 := (hnew ad had).1
      have q2 := (hlt _ e'.symm).2
      omega
  · intro i hi ad had
    have hne : some ad.block ≠ v.ownBlock ∧ ad.block < w1.heap.size := by
      rcases getD_snoc hi with ⟨hlt', e⟩ | ⟨_, e⟩
      · rw [e] at had
        have := hun i hlt' ad had
        exact ⟨hap i hlt' ad had, by omega⟩
      · rw [e] at had
        refine ⟨fun e' => ?_, (hnew ad had).2⟩
        have q1 := (hnew ad had).1
        have q2 := (hlt _ e'.symm).2
        omega
    rcases hv2 with e | e
    · rw [e]; exact hne.1
    · rw [e]; simp; omega
  · intro i hi ad had
    rcases getD_snoc hi with ⟨hlt', e⟩ | ⟨_, e⟩
    · rw [e] at had
      have := hun i hlt' ad had
      omega
    · rw [e] at had
      have := (hnew ad had).2
      omega
  · rw [List.length_drop] at hf ⊢
    omega
  · obtain ⟨f', rfl⟩ : ∃ f', f = f' + 1 := ⟨f - 1, by rw [List.length_drop] at hf; omega⟩
    have hne : l.drop at' ≠ [] := by
      intro e
      have := congrArg List.length e
      simp at this
      omega
    rw [hall, allF_ok f' _ hne he, List.drop_drop, Nat.add_sub_cancel]
    simp [Nat.add_assoc]

theorem AllSt.done {w wr : World} {l : List Int} {N at' : Nat} {v : Value} (h : AllSt w l N at' v wr) (hN : l.length = N) (hat : ¬ at' < N) : ∃ pa m pc, v = .slice pa m pc ∧ Ps wr pa m (allF N l).1 ∧ m ≤ N ∧ (allF N l).2.1 = at' ∧ (allF N l).2.2 = 0 := by
  obtain ⟨hk, hb, ps, ls, f, ho, hps, hbs, _, _, hf, ha⟩ := h
  rw [List.drop_of_length_le (by omega), allF_nil] at ha
  obtain ⟨pa, pc, rfl, hP⟩ := ho.ps hbs
  rw [ha]
  exact ⟨pa, _, pc, rfl, by simpa using hP, by omega, by simp, rfl⟩

theorem AllSt.error {w wr : World} {l : List Int} {N at' : Nat} {v : Value} (h : AllSt w l N at' v wr) (hN : l.length = N) (hat : at' < N) (he : (getF (l.drop at')).2.2 ≠ 0) : ∃ pa m pc, v = .slice pa m pc ∧ (∀ W, Below wr.heap.size wr W → Ps W pa m (allF N l).1) ∧ m ≤ N ∧ (allF N l).2.1 = at' ∧ (allF N l).2.2 = (getF (l.drop at')).2.2 := by
  obtain ⟨hk, hb, ps, ls, f, ho, hps, hbs, _, _, hf, ha⟩ := h
  obtain ⟨f', rfl⟩ : ∃ f', f = f' + 1 := ⟨f - 1, by rw [List.length_drop] at hf; omega⟩
  have hne : l.drop at' ≠ [] := by
    intro e
    have := congrArg List.length e
    simp at this
    omega
  rw [allF_err f' _ hne he] at ha
  obtain ⟨pa, pc, rfl, hP⟩ := ho.ps hbs
  rw [ha]
  exact ⟨pa, _, pc, rfl, fun W hW => by simpa using hP.later hW, by omega, by simp, rfl⟩

theorem ret_P {v : Value} {b c b' c' : Int} (h2 : b = b') (h3 : c = c') : Ending.returned (.tuple #[v, .int .i64 b, .int .i64 c]) = .returned (.tuple #[v, .int .i64 b', .int .i64 c']) := by rw [h2, h3]

set_option maxRecDepth 100000 in
set_option maxHeartbeats 800000 in
theorem frameAll_any (a : Option Addr) (n cap : Nat) (l : List Int) (w : World) (h : Bs w a n cap l) (hn : n ≤ 1000000000) :
    Calls Try.prog 38 #[.slice a n cap] w fun e w' => ∃ pa m pc, e = .returned (.tuple #[.slice pa m pc, .int .i64 (allF n l).2.1, .int .i64 (allF n l).2.2]) ∧ Ps w' pa m (allF n l).1 ∧ m ≤ n ∧ Below w.heap.size w w' := by
  have HB := hide h
  have HN := hide h.1
  have HR := hide h.2.2.2.2.2
  have HS := hide (AllSt.start w l n h.1)
  have hcap := h.2.2.1
  have hnc := h.2.1
  clear h
  go_enter Try.func38, Try.ntmps38
  go_wp2
  go_loopw [2, 3] (fun v i wr => ∃ at' : Nat, at' ≤ n ∧ i = .int .i64 at' ∧ Hid (AllSt w l n at' v wr)) (fun _ i _ => n - (intOf i).toNat)
  case atStart => exact ⟨0, by omega, rfl, HS⟩
  case round =>
    obtain ⟨at', hat, rfl, HT⟩ := hrel
    by_cases hlt : at' < n
    · have hbel := HT.out.bel
      have s1 := fun W => run_fromA a n cap at' (n - at') (at' : Int) rfl hat rfl W
      have HG := hide (frameGet_new _ _ _ _ wr ((HB.out.later hbel (Nat.le_refl _)).fromAt at' (n - at') hat rfl))
      have hfa := getF_facts (l.drop at') (fun x hx => HR.out x (List.mem_of_mem_drop hx))
      rw [List.length_drop, HN.out] at hfa
      by_cases he : (getF (l.drop at')).2.2 = 0
      · have htk : 5 ≤ (getF (l.drop at')).2.1 ∧ (getF (l.drop at')).2.1 ≤ n - at' := by
          rcases hfa with ⟨_, q1, q2⟩ | ⟨q, _, _⟩
          · exact ⟨q1, q2⟩
          · exact absurd he q
        rw [he] at HG
        obtain ⟨took, HK⟩ : ∃ k, Hid (k = (getF (l.drop at')).2.1) := ⟨_, rfl⟩
        rw [← HK.out] at HG htk
        obtain ⟨ps, ls, f, hown, hps, hbss, hap, hun, hf, hall⟩ := HT.out.own
        have HE := hide he
        have HO := hide hown
        have HBE := hide hbel
        have hpsn : ps.length ≤ 1000000000000 := by omega
        have HPS := hide hps; have HBSS := hide hbss; have HAP := hide hap; have HUN := hide hun; have HF := hide hf; have HAL := hide hall
        clear hfa he hown hbel hbss hap hun hf hall hps
        go_wp2_with fail
        refine HG.out.mono ?_
        rintro e w1 ⟨a1, k1, c1, rfl, hbs1, hnew1, hb1⟩
        have hsz : w.heap.size ≤ w1.heap.size := Nat.le_trans HBE.out.size hb1.size
        have HO1 := hide (HO.out.later hb1)
        have HB1 := hide hb1
        have HS1 := hide hbs1
        have HN1 := hide hnew1
        clear hb1 hbs1 hnew1 HG
        go_wp2_with (at_builtin; refine wpList_appP2 rfl (.tmp 25) (.tmp 27) rfl w.heap.size _ ps rfl (HO1.out.later (below_alloc _ _ _ (Nat.le_refl _))) w1.heap.size (a1, k1, c1) rfl (by simp [sv]) hpsn (by simp; omega) ?_)
        intro v2 w2 ho2 hg2 hv2
        have R := AllSt.step HN.out hlt HBE.out HPS.out HR.out HBSS.out HAP.out HUN.out HF.out HAL.out HO.out HE.out HS1.out HN1.out HB1.out ho2 hg2 hv2
        rw [← HK.out] at R
        have HRR := hide R
        clear ho2 hg2 hv2 R HPS HBSS HAP HUN HF HAL HS1 HN1 HB1 HO1
        go_wp2
        go_roundw
        case rel => exact ⟨at' + took, by omega, by go_num, HRR⟩
        case measure => simp [intOf]; omega
      · obtain ⟨pa, m, pc, rfl, hP, hm, q1, q2⟩ := HT.out.error HN.out hlt he
        have hb : ((getF (l.drop at')).2.2 != 0) = true := by simpa using he
        have HP := hide hP
        have HQ1 := hide q1
        have HQ2 := hide q2
        have HBE := hide hbel
        clear hfa he hP q1 q2 hbel
        go_wp2_with fail
        refine HG.out.mono ?_
        rintro e w1 ⟨a1, k1, c1, rfl, _, _, hb1⟩
        clear HG
        go_wp2
        go_ret3
        exact ⟨_, _, _, ret_P (by rw [HQ1.out]) (by rw [HQ2.out]), HP.out _ hb1, hm, HBE.out.trans (hb1.mono HBE.out.size)⟩
    · obtain ⟨pa, m, pc, rfl, hP, hm, q1, q2⟩ := HT.out.done HN.out hlt
      have HP := hide hP
      have HQ1 := hide q1
      have HQ2 := hide q2
      clear hP q1 q2
      go_wp2
      go_ret3
      exact ⟨_, _, _, ret_P (by rw [HQ1.out]) (by rw [HQ2.out]), HP.out, hm, HT.out.bel⟩
end Go.Proofs.Ytjkfobgeklnblaa
