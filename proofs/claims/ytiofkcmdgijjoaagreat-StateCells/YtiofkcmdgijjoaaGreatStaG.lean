/- A state whose blocks are among some blocks O: states side by side. -/
import Derived.Test.YtiofkcmdgijjoaaGreatMqR
namespace Go.Proofs.YtiofkcmdgijjoaaGreat
open Go.RowKit Go.MapKept Go.ChangeMaps

/-- A state; its blocks are among O. -/
structure Sg (W : World) (O : Nat → Prop) (s gv gl gd : Nat) (a : Ab) (N : Nat) : Prop where
  st : AbS W O s gv gl gd a N
  ok : AbOK a
  ll : ∀ k, (a.L k).length ≤ 100
section
variable {w W W' : World} {O O' : Nat → Prop} {s gv gl gd N : Nat} {a : Ab}
theorem Sg.dl (h : Sg W O s gv gl gd a N) : ∀ k, (a.D k).length ≤ 100 := fun k => by have := OkF.le (h.ok k); omega
theorem Sg.later (h : Sg W O s gv gl gd a N) (hb : Below W.heap.size W W') : Sg W' O s gv gl gd a N := ⟨StaS.later h.st hb, h.ok, h.ll⟩
theorem Sg.drew (h : Sg W O s gv gl gd a N) : Sg W.drew O s gv gl gd a N := h.later (Below.refl _ _).drew
/-- Only blocks that are there matter. -/
theorem Sg.wide (h : Sg W O s gv gl gd a N) (hO : ∀ k, O k → k < W.heap.size → O' k) : Sg W O' s gv gl gd a N := ⟨StaS.wide h.st hO, h.ok, h.ll⟩
/-- Others turn. -/
theorem Sg.tch {S : Nat → Prop} (h : Sg W O s gv gl gd a N) (ht : Tch S W W') (hS : ∀ k, O k → k < W.heap.size → ¬ S k) : Sg W' O s gv gl gd a N := ⟨StaS.tch h.st ht hS, h.ok, h.ll⟩
theorem Sg.more {M : Nat} (h : Sg W O s gv gl gd a N) (hM : N ≤ M) : Sg W O s gv gl gd a M := ⟨StaS.more h.st hM, h.ok, h.ll⟩
theorem Sg.cells (h : Sg W O s gv gl gd a N) : W.cell? ⟨s, 0, none⟩ = some (.pointer (some ⟨gv, 0, none⟩)) ∧ W.cell? ⟨s, 1, none⟩ = some (.pointer (some ⟨gl, 0, none⟩)) ∧ W.cell? ⟨s, 2, none⟩ = some (.pointer (some ⟨gd, 0, none⟩)) := sta_cells (StaS.obj h.st)
/-- Do of changes that may be, and that there is room for. -/
theorem Sg.do' (h : Sg W O s gv gl gd a N) (hO : ∀ k, W.heap.size ≤ k → O k) (pa : Option Addr) (n cc : Nat) (xs : List Mq) (hm : Ms W pa n (xs.map Mq.m)) (hn : n ≤ 100000) (hpa : ∀ b o, pa = some ⟨b, o, none⟩ → ¬ O b) (hmay : (xs.map Mq.m).all mayB = true) (hroom : roomB a.L (fun _ => none) xs = true) :
    Calls Tryz.prog 18 #[.pointer (some ⟨s, 0, none⟩), .slice pa n cc] W fun e w' => e = .returned (.int .i64 0) ∧ Sg w' O s gv gl gd (runQ a xs) (N + n) ∧ Tch O W w' := by
  have hx : ∀ x ∈ xs, mayB x.m = true := fun x hx => by
    rw [List.all_eq_true] at hmay
    exact hmay _ (List.mem_map_of_mem hx)
  refine (do_ok O s gv gl gd N a pa n cc xs W h.st h.ll hm hn hO hpa (fun x hm' => chOK_may x (hx x hm')) (fun k => AbOK.runQ h.ok (fun x hm' => may_range (hx x (List.mem_of_mem_take hm')))) hmay hroom).mono ?_
  rintro e w' ⟨r1, r2, r3⟩
  exact ⟨r1, ⟨r2, AbOK.runQ h.ok (fun x hm' => may_range (hx x hm')), runQ_room hroom (fun b => rfl) h.ll⟩, r3⟩
/-- The same of few changes. -/
theorem Sg.few (h : Sg W O s gv gl gd a N) (hO : ∀ k, W.heap.size ≤ k → O k) (pa : Option Addr) (n cc : Nat) (xs : List Mq) (hm : Ms W pa n (xs.map Mq.m)) (hpa : ∀ b o, pa = some ⟨b, o, none⟩ → ¬ O b) (hmay : ∀ x ∈ xs, mayB x.m = true) (M : Nat) (hl : ∀ k, (a.L k).length ≤ M) (hM : M + n ≤ 100) :
    Calls Tryz.prog 18 #[.pointer (some ⟨s, 0, none⟩), .slice pa n cc] W fun e w' => e = .returned (.int .i64 0) ∧ Sg w' O s gv gl gd (runQ a xs) (N + n) ∧ Tch O W w' := by
  have e1 : xs.length = n := by have := hm.1; rwa [List.length_map] at this
  refine h.do' hO pa n cc xs hm (by omega) hpa ?_ (room_few a.L xs _ M (fun k => ?_) (by omega))
  · rw [List.all_eq_true]
    intro m hm
    obtain ⟨x, hx, rfl⟩ := List.mem_map.1 hm
    exact hmay x hx
  · have := hl k
    show ((a.L k).length : Int) ≤ _
    omega
theorem Sg.form (_h : Sg W O s gv gl gd a N) (pa : Option Addr) (n cc : Nat) (ms : List Mt) (hm : Ms W pa n ms) (hn : n ≤ 100000) (hmay : ms.all mayB = false) :
    Calls Tryz.prog 18 #[.pointer (some ⟨s, 0, none⟩), .slice pa n cc] W fun e w' => e = .returned (.int .i64 1) ∧ Below W.heap.size W w' := do_form s pa n cc ms W hm hn hmay
theorem Sg.value (h : Sg W O s gv gl gd a N) (k : K3) :
    Calls Tryz.prog 36 #[.pointer (some ⟨gv, 0, none⟩), k3E k] W fun e w' => e = .returned (.tuple #[.int .i64 ((a.V k).getD 0), .bool (a.V k).isSome]) ∧ Below W.heap.size W w' := by
  obtain ⟨X, hX⟩ := StaS.rdV h.st
  exact valueGet X gv N a.V k W hX
theorem Sg.field (h : Sg W O s gv gl gd a N) (k : K3) (f : Int) :
    Calls Tryz.prog 15 #[.pointer (some ⟨gd, 0, none⟩), k3E k, .int .i64 f] W fun e w' => e = .returned (.tuple #[.int .i64 ((fldZ (a.D k) f).getD 0), .bool (fldZ (a.D k) f).isSome]) ∧ Below W.heap.size W w' := by
  obtain ⟨X, hX⟩ := StaS.rdD h.st
  exact dictField X gd N a.D k f W hX (h.ok k).1 (h.dl k)
theorem Sg.list (h : Sg W O s gv gl gd a N) (k : K3) :
    Calls Tryz.prog 38 #[.pointer (some ⟨gl, 0, none⟩), k3E k] W fun e w' => ∃ p c, e = .returned (.slice p (a.L k).length c) ∧ OwnI w' W.heap.size (.slice p (a.L k).length c) (a.L k) ∧ Below W.heap.size W w' := by
  obtain ⟨X, hX⟩ := StaS.rdL h.st
  refine (listList X gl N a.L k W hX (h.ll k)).mono ?_
  rintro e w' ⟨v, r1, r2, r3⟩
  obtain ⟨p, c, rfl, _⟩ := RowI.slice r2.row
  exact ⟨p, c, r1, r2, r3⟩
/-- Cells, with what they are. -/
theorem Sg.told (h : Sg W O s gv gl gd a N) (hN : N ≤ 1000) :
    Calls Tryz.prog 26 #[.pointer (some ⟨s, 0, none⟩)] W fun e w' => ∃ v xs ks, e = .returned v ∧ Kof a ks ∧ ks.length ≤ 3 * N ∧ xs.map Cr.c = ks.map a.at ∧ OwnR w' W.heap.size v xs ∧ Below W.heap.size W w' :=
  stateCells _ s gv gl gd N a W h.st hN h.ll h.dl
/-- How many cells. -/
theorem Sg.len (h : Sg W O s gv gl gd a N) (hN : N ≤ 1000) {ks : List K3} (hk : Kof a ks) :
    Calls Tryz.prog 26 #[.pointer (some ⟨s, 0, none⟩)] W fun e w' => ∃ p c, e = .returned (.slice p ks.length c) ∧ Below W.heap.size W w' := by
  refine (h.told hN).mono ?_
  rintro e w' ⟨v, xs, ks', r1, r2, r3, r4, r5, r6⟩
  have e1 : ks' = ks := rise_eq r2.1 hk.1 (fun k => (r2.2 k).trans (hk.2 k).symm)
  have e2 : xs.length = ks.length := by
    have := congrArg List.length r4
    rw [List.length_map, List.length_map, e1] at this
    exact this
  rcases r5.slice with ⟨e3, e4⟩ | ⟨g, cp, e3, _⟩
  · subst e4
    refine ⟨none, 0, ?_, r6⟩
    rw [r1, e3, ← e2]; rfl
  · refine ⟨some ⟨g, 0, none⟩, cp, ?_, r6⟩
    rw [r1, e3, e2]
theorem kof_none : Kof ab0 [] := ⟨List.Pairwise.nil, fun k => by simp [ab0]⟩
theorem Sg.copy (h : Sg W O s gv gl gd a N) (hN : N ≤ 1000) :
    Calls Tryz.prog 30 #[.pointer (some ⟨s, 0, none⟩)] W fun e w' => e = .returned (.pointer (some ⟨W.heap.size + 1 + 1 + 1, 0, none⟩)) ∧ Sg w' (fun k => W.heap.size ≤ k) (W.heap.size + 1 + 1 + 1) W.heap.size (W.heap.size + 1) (W.heap.size + 1 + 1) a N ∧ Below W.heap.size W w' := by
  refine (stateCopy O s gv gl gd N a W h.st hN h.ll h.dl (Or.inl ⟨putOK, h.ok⟩) (fun k => (h.ok k).1)).mono ?_
  rintro e w' ⟨r1, r2, r3⟩
  exact ⟨r1, ⟨r2, h.ok, h.ll⟩, r3⟩
end
/-- Are two states one? -/
theorem Sg.eq {W : World} {O1 O2 : Nat → Prop} {s1 v1 l1 d1 N1 s2 v2 l2 d2 N2 : Nat} {a b : Ab} (h1 : Sg W O1 s1 v1 l1 d1 a N1) (h2 : Sg W O2 s2 v2 l2 d2 b N2) (hN1 : N1 ≤ 1000) (hN2 : N2 ≤ 1000) :
    Calls Tryz.prog 32 #[.pointer (some ⟨s1, 0, none⟩), .pointer (some ⟨s2, 0, none⟩)] W fun e w' => ∃ r, e = .returned (.bool r) ∧ (r = true ↔ a = b) ∧ Below W.heap.size W w' :=
  stateEq O1 O2 s1 v1 l1 d1 N1 s2 v2 l2 d2 N2 a b W h1.st h2.st hN1 hN2 h1.ll h1.dl h2.ll h2.dl
theorem Sg.same {W : World} {O1 O2 : Nat → Prop} {s1 v1 l1 d1 N1 s2 v2 l2 d2 N2 : Nat} {a : Ab} (h1 : Sg W O1 s1 v1 l1 d1 a N1) (h2 : Sg W O2 s2 v2 l2 d2 a N2) (hN1 : N1 ≤ 1000) (hN2 : N2 ≤ 1000) :
    Calls Tryz.prog 32 #[.pointer (some ⟨s1, 0, none⟩), .pointer (some ⟨s2, 0, none⟩)] W fun e w' => e = .returned (.bool true) ∧ Below W.heap.size W w' := by
  refine (h1.eq h2 hN1 hN2).mono ?_
  rintro e w' ⟨r, r1, r2, r3⟩
  rw [r2.2 rfl] at r1
  exact ⟨r1, r3⟩
theorem Sg.new (w : World) : Sg (newSt w) (fun k => w.heap.size ≤ k) (w.heap.size + 1 + 1 + 1) w.heap.size (w.heap.size + 1) (w.heap.size + 1 + 1) ab0 0 :=
  ⟨StaS.new w _ (fun _ hk => hk), abOK0, fun _ => Nat.zero_le _⟩

/-- The changes that may be, of the first ones. -/
def goodQ (xs : List Mq) (t : Nat) : List Mq := (xs.take t).filter fun x => mayB x.m
theorem goodQ_next {xs : List Mq} {t : Nat} {x : Mq} (h : xs[t]? = some x) : goodQ xs (t + 1) = goodQ xs t ++ (if mayB x.m then [x] else []) := by
  obtain ⟨hk, rfl⟩ := List.getElem?_eq_some_iff.1 h
  unfold goodQ
  rw [List.take_succ_eq_append_getElem hk, List.filter_append]
  cases h : mayB xs[t].m <;> simp [h]
theorem goodQ_may (xs : List Mq) (t : Nat) : ∀ x ∈ goodQ xs t, mayB x.m = true := fun _ hx => (List.mem_filter.1 hx).2
theorem goodQ_mem (xs : List Mq) (t : Nat) : ∀ x ∈ goodQ xs t, x ∈ xs := fun _ hx => List.mem_of_mem_take (List.mem_filter.1 hx).1
theorem goodQ_len (xs : List Mq) (t : Nat) : (goodQ xs t).length ≤ t := Nat.le_trans (List.length_filter_le _ _) (by rw [List.length_take]; omega)
end Go.Proofs.YtiofkcmdgijjoaaGreat
