/- Steps of the laws on disks. -/
import Derived.Test.YtjdbkmjhjcmoaaaDskO
namespace Go.Proofs.Ytjdbkmjhjcmoaaa
open Go.RowKit Go.MapKept

/-- A disk behind so many appends, and what it was synced as. -/
def StD (O : Nat → Prop) (g : Nat) (G : Files) (i : Nat) (w wr : World) : Prop :=
  ∃ F cs lo, DskS wr O g F G cs lo ∧ DP F G cs lo i ∧ Below w.heap.size w wr

theorem StD.bel {O : Nat → Prop} {g : Nat} {G : Files} {i : Nat} {w wr : World} (h : StD O g G i w wr) : Below w.heap.size w wr := by
  obtain ⟨F, cs, lo, _, _, h⟩ := h
  exact h
theorem StD.skip {O : Nat → Prop} {g : Nat} {G : Files} {i : Nat} {w wr : World} (h : StD O g G i w wr) : StD O g G (i + 1) w wr := by
  obtain ⟨F, cs, lo, h1, h2, h3⟩ := h
  exact ⟨F, cs, lo, h1, h2.skip, h3⟩

/-- One append. -/
theorem StD.step {O : Nat → Prop} {g : Nat} {G : Files} {i : Nat} {w wr : World} (h : StD O g G i w wr) (hi : i ≤ 40) (hO : ∀ k, wr.heap.size ≤ k → O k) (hOw : ∀ k, O k → w.heap.size ≤ k) (d : Dop) (hd : Bs w d.a d.n d.c d.z) (t : ByteArray) (ht : t.size ≤ 40) (n : Nat) (hn : n ≤ d.n) (hn4 : n ≤ 40) :
    Calls Try.prog 18 #[.pointer (some ⟨g, 0, none⟩), .string t, .slice d.a n d.c] wr.drew fun e w' => ∃ x, e = .returned (.int .i64 x) ∧ Hid (StD O g G (i + 1) w w' ∧ Tch O wr w') := by
  obtain ⟨F, cs, lo, h1, h2, h3⟩ := h
  have hD : Below wr.heap.size wr wr.drew := (Below.refl _ _).drew
  have hb := (hd.take n hn).later h3 (Nat.le_refl _)
  have hb2 := hb.later hD (Nat.le_refl _)
  refine (append_s O g i F G cs lo t d.a n d.c _ wr.drew (h1.later hD) h2 hi hO ht hb2 hn4 (fun ad ha hp hO' => ?_)).mono ?_
  · have hb0 := hd.take n hn
    obtain ⟨b, o, e, hc⟩ := hb0.2.2.2.2.1 hp
    have hlt := lt_of_cell (hc 0 hp)
    rw [ha] at e
    cases e
    have := hOw _ hO'
    simp at hlt this
    omega
  · rintro e w' ⟨x, F', cs', lo', rfl, k1, k2, k3⟩
    have hT : Tch O wr w' := (Below.tch hD).trans k3
    exact ⟨x, rfl, ⟨F', cs', lo', k1, k2, h3.trans (hT.below (fun k hk e => by have := hOw k e; omega) h3.size)⟩, hT⟩

/-- What was told of files: names and their bytes as texts. -/
def Told (w : World) (r : Nat) (G : Files) : Prop := ∃ l c, Mp strE w r l c ∧ ∀ x ∈ l, ∃ z, G x.k = some z ∧ x.v = .string (strOfNums z)

theorem Told.tch {S : Nat → Prop} {w w' : World} {r : Nat} {G : Files} (h : Told w r G) (ht : Tch S w w') (hr : ¬ S r) : Told w' r G := by
  obtain ⟨l, c, h1, h2⟩ := h
  exact ⟨l, c, h1.at (ht.block r h1.lt hr), h2⟩
theorem Told.later {w w' : World} {r : Nat} {G : Files} (h : Told w r G) (hb : Below w.heap.size w w') : Told w' r G :=
  h.tch (S := fun _ => False) (Below.tch hb) (fun e => e)

theorem und47 : Try.prog.underlying 47 = some (.map 9 9) := by kernel_rfl

theorem DP.mono {F G : Files} {cs : List (ByteArray × Nat)} {lo : List Int} {i j : Nat} (h : DP F G cs lo i) (hij : i ≤ j) : DP F G cs lo j :=
  ⟨h.redo, h.sum, h.capN.mono (by omega), h.capS.mono (by omega), by have := h.len; omega, h.namN.mono (by omega), h.namS.mono (by omega), by have := h.cnt; omega, h.each⟩

/-- A disk that is synced. -/
def Syn (O : Nat → Prop) (g : Nat) (F : Files) (w wr : World) : Prop := DskS wr O g F F [] [] ∧ DP F F [] [] 15 ∧ Below w.heap.size w wr

theorem StD.sync {O : Nat → Prop} {g : Nat} {G : Files} {i : Nat} {w wr : World} (h : StD O g G i w wr) (hi : i ≤ 15) (hO : ∀ k, wr.heap.size ≤ k → O k) (hOw : ∀ k, O k → w.heap.size ≤ k) :
    Calls Try.prog 20 #[.pointer (some ⟨g, 0, none⟩)] wr fun e w' => e = .returned (.tuple #[]) ∧ ∃ F, Hid (Syn O g F w w') := by
  obtain ⟨F, cs, lo, h1, h2, h3⟩ := h
  refine (sync_s O g i F G cs lo wr h1 h2 (by omega) hO).mono ?_
  rintro e w' ⟨rfl, k1, k2⟩
  exact ⟨rfl, F, k1, h2.sync.mono hi, h3.trans (k2.below (fun k hk e => by have := hOw k e; omega) h3.size)⟩

theorem Syn.later {O : Nat → Prop} {g : Nat} {F : Files} {w wr wr' : World} (h : Syn O g F w wr) (hb : Below wr.heap.size wr wr') : Syn O g F w wr' :=
  ⟨h.1.later hb, h.2.1, h.2.2.trans (hb.mono h.2.2.size)⟩
theorem Syn.narrow {O O' : Nat → Prop} {g : Nat} {F : Files} {w wr : World} (h : Syn O g F w wr) (hO : ∀ k, k < wr.heap.size → O k → O' k) : Syn O' g F w wr := ⟨h.1.narrow hO, h.2.1, h.2.2⟩
theorem Syn.std {O : Nat → Prop} {g : Nat} {F : Files} {w wr : World} (h : Syn O g F w wr) : StD O g F 15 w wr := ⟨F, [], [], h.1, h.2.1, h.2.2⟩

theorem told_new (w : World) (G : Files) : Told (w.alloc (.map #[] 0)) w.heap.size G := ⟨[], 0, Mp.new w, by simp⟩

theorem OwnS.zero {w : World} {B : Nat} {v : Value} {ss : List ByteArray} (h : OwnS w B v ss) : OwnS w 0 v ss := by
  obtain ⟨q1, q2⟩ := h
  refine ⟨q1, ?_⟩
  rcases q2 with q2 | ⟨g', cap, cur, e, hg', rest⟩
  · exact Or.inl q2
  · exact Or.inr ⟨g', cap, cur, e, Nat.zero_le _, rest⟩

/-- While what was synced is told. -/
def Tell (O : Nat → Prop) (g r B : Nat) (F : Files) (ns : List ByteArray) (v : Value) (w wr : World) : Prop := Syn O g F w wr ∧ Told wr r F ∧ OwnS wr B v ns

/-- One file told. -/
theorem Tell.step {O : Nat → Prop} {g r B : Nat} {F : Files} {ns : List ByteArray} {v : Value} {w wr : World} (h : Tell O g r B F ns v w wr) (hns : NamesOf F ns) (hOr : ¬ O r) (hrB : r < B) (hrw : w.heap.size ≤ r) (s : ByteArray) (hs : s ∈ ns) :
    Calls Try.prog 22 #[.pointer (some ⟨g, 0, none⟩), .string s] wr fun e w' => ∃ a n cap t w2, e = .returned (.tuple #[.slice a n cap, .int .i64 0]) ∧ (convert 24 9 (.slice a n cap)).run Try.prog w' = .ok (.string t) w' ∧ (Instr.mapUpdate 47 (.map (some r)) (.string s) (.string t)).run Try.prog w' = .ok () w2 ∧ Hid (Tell O g r B F ns v w w2) := by
  obtain ⟨⟨h1, h2, h3⟩, h4, h5⟩ := h
  refine (read_s O g F F [] [] s wr h1 (h2.capN.mono (by omega))).mono ?_
  rintro e w' ⟨hb, ⟨hF, _⟩ | ⟨z, a, cap, hF, rfl, ho⟩⟩
  · exact absurd hF ((hns.2.1 s).1 hs)
  · obtain ⟨a', cap', e, hbs⟩ := Bs.of_owns ho
    obtain ⟨rfl, rfl⟩ : a = a' ∧ cap = cap' := by simpa using e
    have hcv := conv_any a z.length cap z w' w' hbs (fun _ _ h => h)
    obtain ⟨l, c, m1, m2⟩ := h4.later hb
    obtain ⟨w2, l', c', u1, u2, u3, u4⟩ := m1.upd strKeyd und47 s (.string (strOfNums z))
    have hg2 := grown_below (B := r) u3 (Nat.le_refl _) (by have := m1.lt; omega)
    have hT : Tch (fun k => some k = some r) w' w2 := Tch.of u3
    refine ⟨a, z.length, cap, strOfNums z, w2, rfl, hcv, u1, ⟨(h1.later hb).tch hT (fun k hk e => hOr ((Option.some.inj e) ▸ hk)), h2, ?_⟩, ⟨l', c', u2, fun x hx => ?_⟩, ?_⟩
    · exact (h3.trans (hb.mono h3.size)).trans (grown_below u3 hrw (Nat.le_trans h3.size hb.size))
    · rcases u4 x hx with ⟨e1, e2⟩ | hx
      · exact ⟨z, by rw [e1]; exact hF, e2⟩
      · exact m2 x hx
    · refine (h5.later hb).kept u3 ?_
      cases e : v.ownBlock with
      | none => exact Or.inl rfl
      | some k => exact Or.inr (fun e' => Nat.lt_irrefl r (Nat.lt_of_lt_of_le hrB ((Option.some.inj e') ▸ (h5.lt k e).1)))

/-- Behind the crash. -/
def Aft (O : Nat → Prop) (g g2 r : Nat) (F F' C : Files) (w wr : World) : Prop :=
  ∃ cs lo, DskS wr O g F' F cs lo ∧ DP F' F cs lo 30 ∧ capF F 1000 ∧ Dsk wr O g2 C C [] [] ∧ Told wr r F ∧ leF F C ∧ leF C F' ∧ capF C 60000 ∧ namF C 1000 ∧ Below w.heap.size w wr

theorem Aft.later {O : Nat → Prop} {g g2 r : Nat} {F F' C : Files} {w wr wr' : World} (h : Aft O g g2 r F F' C w wr) (hb : Below wr.heap.size wr wr') : Aft O g g2 r F F' C w wr' := by
  obtain ⟨cs, lo, h1, h2, h3, h4, h5, h6, h7, h8, h9, h10⟩ := h
  exact ⟨cs, lo, h1.later hb, h2, h3, h4.later hb, h5.later hb, h6, h7, h8, h9, h10.trans (hb.mono h10.size)⟩
theorem Aft.narrow {O O' : Nat → Prop} {g g2 r : Nat} {F F' C : Files} {w wr : World} (h : Aft O g g2 r F F' C w wr) (hO : ∀ k, k < wr.heap.size → O k → O' k) : Aft O' g g2 r F F' C w wr := by
  obtain ⟨cs, lo, h1, h2, h3, ⟨q1, q2, h4⟩, h5, h6, h7, h8, h9, h10⟩ := h
  exact ⟨cs, lo, h1.narrow hO, h2, h3, ⟨q1, q2, h4.narrow hO⟩, h5, h6, h7, h8, h9, h10⟩
theorem Aft.grown {O : Nat → Prop} {g g2 r gi : Nat} {F F' C : Files} {w wr wr' : World} (h : Aft O g g2 r F F' C w wr) (hg : wr.grownBy wr' (some gi)) (hO : ¬ O gi) (hr : r ≠ gi) (hw : w.heap.size ≤ gi) : Aft O g g2 r F F' C w wr' := by
  obtain ⟨cs, lo, h1, h2, h3, ⟨q1, q2, h4⟩, h5, h6, h7, h8, h9, h10⟩ := h
  have hT : Tch (fun k => some k = some gi) wr wr' := Tch.of hg
  have hS : ∀ k, O k → ¬ some k = some gi := fun k hk e => hO ((Option.some.inj e) ▸ hk)
  exact ⟨cs, lo, h1.tch hT hS, h2, h3, ⟨q1, q2, h4.tch hT hS⟩, h5.tch hT (fun e => hr (Option.some.inj e)), h6, h7, h8, h9, h10.trans (grown_below hg hw h10.size)⟩
theorem Aft.bel {O : Nat → Prop} {g g2 r : Nat} {F F' C : Files} {w wr : World} (h : Aft O g g2 r F F' C w wr) : Below w.heap.size w wr := by
  obtain ⟨cs, lo, h1, h2, h3, h4, h5, h6, h7, h8, h9, h10⟩ := h
  exact h10

theorem StD.crash {O : Nat → Prop} {g r i : Nat} {F : Files} {w wr : World} (h : StD O g F i w wr) (hi : i ≤ 30) (hF : capF F 1000) (ht : Told wr r F) (hO : ∀ k, wr.heap.size ≤ k → O k) (kept : Int) (hk : (Lit.int .i64 kept).wf = true) :
    Calls Try.prog 23 #[.pointer (some ⟨g, 0, none⟩), .int .i64 kept, .int .i64 (-1)] wr fun e w' => ∃ g2 F' C, e = .returned (.pointer (some ⟨g2, 0, none⟩)) ∧ Hid (Aft O g g2 r F F' C w w') := by
  obtain ⟨F', cs, lo, h1, h2, h3⟩ := h
  refine (crash_s O g i F' F cs lo kept (-1) wr h1 h2 (Or.inr ⟨hF, by omega⟩) hk (by decide)).mono ?_
  rintro e w' ⟨g2, C, rfl, k1, k2, k3, _⟩
  have hC : C = redoF F cs (lo.take (keptN kept lo.length)) := by
    rcases k1 with ⟨_, e⟩ | ⟨e, _⟩
    · exact e
    · omega
  have h2' := h2.mono hi
  refine ⟨g2, F', C, rfl, cs, lo, h1.later k3, h2', hF, (let ⟨q1, q2, k⟩ := k2; ⟨q1, q2, k.narrow (fun k _ hk => hO k hk)⟩), ht.later k3, ?_, ?_, ?_, ?_, h3.trans (k3.mono h3.size)⟩
  · rw [hC]; exact le_redoF _ _ _
  · rw [hC, h2.redo]; exact redoF_take F cs lo _ (by rw [h2.sum]; exact Nat.le_refl _)
  · rw [hC]
    have := h2'.len
    exact (hF.redo cs _).mono (by rw [List.length_take]; omega)
  · rw [hC]
    exact (h2'.namS.redo cs _ (fun p hp => (h2'.each p hp).2)).mono (by have := h2'.cnt; omega)

/-- A file of what the crash left, read: it begins with what was synced. -/
theorem Aft.read1 {O : Nat → Prop} {g g2 r : Nat} {F F' C : Files} {w wr : World} (h : Aft O g g2 r F F' C w wr) (s : ByteArray) (z : List Int) (hz : F s = some z) :
    Calls Try.prog 22 #[.pointer (some ⟨g2, 0, none⟩), .string s] wr fun e w' => ∃ a n cap, e = .returned (.tuple #[.slice a n cap, .int .i64 0]) ∧ (strOfNums z).size ≤ n ∧ n ≤ cap ∧ cap ≤ 9223372036854775807 ∧ (convert 24 9 (.slice a (strOfNums z).size cap)).run Try.prog w' = .ok (.string (strOfNums z)) w' ∧ Hid (Below wr.heap.size wr w') := by
  obtain ⟨cs, lo, h1, h2, h3, h4, h5, h6, h7, h8, h9, h10⟩ := h
  obtain ⟨y, hy, hp⟩ := h6 s z hz
  refine (read_m O g2 C C [] [] s wr h4 h8).mono ?_
  rintro e w' ⟨hb, ⟨hC, _⟩ | ⟨y', a, cap, hC, rfl, ho⟩⟩
  · rw [hC] at hy; cases hy
  · rw [hC] at hy; cases hy
    obtain ⟨a', cap', e, hbs⟩ := Bs.of_owns ho
    obtain ⟨rfl, rfl⟩ : a = a' ∧ cap = cap' := by simpa using e
    have hl := hp.length_le
    have ht : y.take z.length = z := by
      obtain ⟨u, rfl⟩ := hp
      simp
    have hb2 := hbs.take z.length hl
    rw [ht] at hb2
    have hcv := conv_any a z.length cap z w' w' hb2 (fun _ _ h => h)
    refine ⟨a, y.length, cap, rfl, by rw [str_size]; exact hl, hbs.2.1, hbs.2.2.1, ?_, hb⟩
    rw [str_size]; exact hcv

/-- A file of what the crash left, read, and the same one of the disk at hand. -/
theorem Aft.read2 {O : Nat → Prop} {g g2 r : Nat} {F F' C : Files} {w wr : World} (h : Aft O g g2 r F F' C w wr) (s : ByteArray) (y : List Int) (hy : C s = some y) :
    Calls Try.prog 22 #[.pointer (some ⟨g2, 0, none⟩), .string s] wr fun e w' => ∃ a cap, e = .returned (.tuple #[.slice a y.length cap, .int .i64 0]) ∧ Hid (Bs w' a y.length cap y) ∧ Hid (Below wr.heap.size wr w') := by
  obtain ⟨cs, lo, h1, h2, h3, h4, h5, h6, h7, h8, h9, h10⟩ := h
  refine (read_m O g2 C C [] [] s wr h4 h8).mono ?_
  rintro e w' ⟨hb, ⟨hC, _⟩ | ⟨y', a, cap, hC, rfl, ho⟩⟩
  · rw [hC] at hy; cases hy
  · rw [hC] at hy; cases hy
    obtain ⟨a', cap', e, hbs⟩ := Bs.of_owns ho
    obtain ⟨rfl, rfl⟩ : a = a' ∧ cap = cap' := by simpa using e
    exact ⟨a, cap, rfl, hbs, hb⟩
theorem Aft.read3 {O : Nat → Prop} {g g2 r : Nat} {F F' C : Files} {w wr : World} (h : Aft O g g2 r F F' C w wr) (s : ByteArray) (y : List Int) (hy : C s = some y) :
    Calls Try.prog 22 #[.pointer (some ⟨g, 0, none⟩), .string s] wr fun e w' => ∃ a n cap, e = .returned (.tuple #[.slice a n cap, .int .i64 0]) ∧ y.length ≤ n ∧ n ≤ cap ∧ cap ≤ 9223372036854775807 ∧ Hid (Bs w' a y.length cap y) ∧ Hid (Below wr.heap.size wr w') := by
  obtain ⟨cs, lo, h1, h2, h3, h4, h5, h6, h7, h8, h9, h10⟩ := h
  obtain ⟨x, hx, hp⟩ := h7 s y hy
  refine (read_s O g F' F cs lo s wr h1 (h2.capN.mono (by omega))).mono ?_
  rintro e w' ⟨hb, ⟨hC, _⟩ | ⟨x', a, cap, hC, rfl, ho⟩⟩
  · rw [hC] at hx; cases hx
  · rw [hC] at hx; cases hx
    obtain ⟨a', cap', e, hbs⟩ := Bs.of_owns ho
    obtain ⟨rfl, rfl⟩ : a = a' ∧ cap = cap' := by simpa using e
    have hl := hp.length_le
    have ht : x.take y.length = y := by
      obtain ⟨u, rfl⟩ := hp
      simp
    have hb2 := hbs.take y.length hl
    rw [ht] at hb2
    exact ⟨a, x.length, cap, rfl, hl, hbs.2.1, hbs.2.2.1, hb2, hb⟩
theorem Aft.list {O : Nat → Prop} {g g2 r : Nat} {F F' C : Files} {w wr : World} (h : Aft O g g2 r F F' C w wr) :
    Calls Try.prog 21 #[.pointer (some ⟨g2, 0, none⟩)] wr fun e w' => ∃ v ns, e = .returned v ∧ NamesOf C ns ∧ OwnS w' wr.heap.size v ns ∧ Below wr.heap.size wr w' := by
  obtain ⟨cs, lo, h1, h2, h3, h4, h5, h6, h7, h8, h9, h10⟩ := h
  exact list_m O g2 1000 C C [] [] wr h4 h9 (by omega)
theorem Aft.loose {O : Nat → Prop} {g g2 r : Nat} {F F' C : Files} {w wr : World} (h : Aft O g g2 r F F' C w wr) :
    Calls Try.prog 24 #[.pointer (some ⟨g2, 0, none⟩)] wr fun e w' => e = .returned (.int .i64 0) ∧ w' = wr := by
  obtain ⟨cs, lo, h1, h2, h3, h4, h5, h6, h7, h8, h9, h10⟩ := h
  exact loose_m O g2 C C [] [] wr h4
theorem Aft.crash {O : Nat → Prop} {g g2 r : Nat} {F F' C : Files} {w wr : World} (h : Aft O g g2 r F F' C w wr) (kept : Int) (hk : (Lit.int .i64 kept).wf = true) :
    Calls Try.prog 23 #[.pointer (some ⟨g, 0, none⟩), .int .i64 kept, .int .i64 (-1)] wr fun e w' => ∃ g3, e = .returned (.pointer (some ⟨g3, 0, none⟩)) ∧ Hid (∃ O4 C', Dsk w' O4 g3 C' C' [] []) ∧ Hid (Aft O g g2 r F F' C w w') := by
  have ha := h
  obtain ⟨cs, lo, h1, h2, h3, h4, h5, h6, h7, h8, h9, h10⟩ := h
  refine (crash_s O g 30 F' F cs lo kept (-1) wr h1 h2 (Or.inr ⟨h3, by omega⟩) hk (by decide)).mono ?_
  rintro e w' ⟨g3, C', rfl, k1, k2, k3, _⟩
  exact ⟨g3, rfl, ⟨_, C', k2⟩, ha.later k3⟩
end Go.Proofs.Ytjdbkmjhjcmoaaa
