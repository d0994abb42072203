/- A disk, be it made or not, and what is known of it behind so many appends. -/
import Derived.Test.YtjdbkmjhjcmoaaaDskH
namespace Go.Proofs.Ytjdbkmjhjcmoaaa
open Go.RowKit Go.MapKept Go.ChangeMaps

def noF : Files := fun _ => none
def DskS (w : World) (O : Nat → Prop) (g : Nat) (F G : Files) (cs : List (ByteArray × Nat)) (lo : List Int) : Prop :=
  Dsk w O g F G cs lo ∨ (w.heap[g]? = some (dObj none none (.slice none 0 0) (.slice none 0 0)) ∧ O g ∧ F = noF ∧ G = noF ∧ cs = [] ∧ lo = [])

theorem DskS.later {w w' : World} {O : Nat → Prop} {g : Nat} {F G : Files} {cs : List (ByteArray × Nat)} {lo : List Int} (h : DskS w O g F G cs lo) (hb : Below w.heap.size w w') : DskS w' O g F G cs lo := by
  rcases h with ⟨r1, r2, h⟩ | ⟨h, r⟩
  · exact Or.inl ⟨r1, r2, h.later hb⟩
  · exact Or.inr ⟨(hb.block g (lt_of_heap h)).trans h, r⟩
theorem DskS.narrow {w : World} {O O' : Nat → Prop} {g : Nat} {F G : Files} {cs : List (ByteArray × Nat)} {lo : List Int} (h : DskS w O g F G cs lo) (hO : ∀ k, k < w.heap.size → O k → O' k) : DskS w O' g F G cs lo := by
  rcases h with ⟨r1, r2, h⟩ | ⟨h, h1, r⟩
  · exact Or.inl ⟨r1, r2, h.narrow hO⟩
  · exact Or.inr ⟨h, hO g (lt_of_heap h) h1, r⟩
theorem DskS.tch {S : Nat → Prop} {w w' : World} {O : Nat → Prop} {g : Nat} {F G : Files} {cs : List (ByteArray × Nat)} {lo : List Int} (h : DskS w O g F G cs lo) (ht : Tch S w w') (hS : ∀ k, O k → ¬ S k) : DskS w' O g F G cs lo := by
  rcases h with ⟨r1, r2, h⟩ | ⟨h, h1, r⟩
  · exact Or.inl ⟨r1, r2, h.tch ht hS⟩
  · exact Or.inr ⟨ht.old h (hS g h1), h1, r⟩
theorem Dsk.later {w w' : World} {O : Nat → Prop} {g : Nat} {F G : Files} {cs : List (ByteArray × Nat)} {lo : List Int} (h : Dsk w O g F G cs lo) (hb : Below w.heap.size w w') : Dsk w' O g F G cs lo := by
  obtain ⟨r1, r2, h⟩ := h
  exact ⟨r1, r2, h.later hb⟩

/-- What is known behind i appends. -/
structure DP (F G : Files) (cs : List (ByteArray × Nat)) (lo : List Int) (i : Nat) : Prop where
  redo : F = redoF G cs lo
  sum : (cs.map (·.2)).sum = lo.length
  capN : capF F (40 * i)
  capS : capF G (40 * i)
  len : lo.length ≤ 40 * i
  namN : namF F i
  namS : namF G i
  cnt : cs.length ≤ i
  each : ∀ p ∈ cs, p.2 ≤ 40 ∧ p.1.size ≤ 40

theorem DP.start : DP noF noF [] [] 0 :=
  ⟨rfl, rfl, fun s z h => (by cases h), fun s z h => (by cases h), by simp, namF.none, namF.none, by simp, by simp⟩
theorem DP.skip {F G : Files} {cs : List (ByteArray × Nat)} {lo : List Int} {i : Nat} (h : DP F G cs lo i) : DP F G cs lo (i + 1) :=
  ⟨h.redo, h.sum, h.capN.mono (by omega), h.capS.mono (by omega), by have := h.len; omega, h.namN.mono (by omega), h.namS.mono (by omega), by have := h.cnt; omega, h.each⟩
theorem DP.append {F G : Files} {cs : List (ByteArray × Nat)} {lo : List Int} {i : Nat} (h : DP F G cs lo i) (s : ByteArray) (z : List Int) (hs : s.size ≤ 40) (hz : z.length ≤ 40) : DP (addF F s z) G (cs ++ [(s, z.length)]) (lo ++ z) (i + 1) := by
  refine ⟨?_, ?_, (h.capN.add s z).mono (by omega), h.capS.mono (by omega), ?_, h.namN.add s z hs, h.namS.mono (by omega), ?_, fun p hp => ?_⟩
  · rw [redoF_snoc G cs lo s z h.sum, ← h.redo]
  · simp [h.sum]
  · have := h.len
    rw [List.length_append]; omega
  · have := h.cnt
    simp; omega
  · rcases List.mem_append.1 hp with hp | hp
    · exact h.each p hp
    · simp at hp; subst hp; exact ⟨hz, hs⟩
theorem DP.sync {F G : Files} {cs : List (ByteArray × Nat)} {lo : List Int} {i : Nat} (h : DP F G cs lo i) : DP F F [] [] i :=
  ⟨rfl, rfl, h.capN, h.capN, by simp, h.namN, h.namN, by simp, by simp⟩

/-- Append, whatever the name. -/
theorem append_s (O : Nat → Prop) (g i : Nat) (F G : Files) (cs : List (ByteArray × Nat)) (lo : List Int) (s : ByteArray) (a : Option Addr) (n cap : Nat) (z : List Int) (w : World) (h : DskS w O g F G cs lo) (hP : DP F G cs lo i) (hi : i ≤ 40) (hO : ∀ k, w.heap.size ≤ k → O k) (hs : s.size ≤ 40) (hb : Bs w a n cap z) (hn : n ≤ 40) (hab : ∀ ad, a = some ad → 0 < n → ¬ O ad.block) :
    Calls Try.prog 18 #[.pointer (some ⟨g, 0, none⟩), .string s, .slice a n cap] w fun e w' => ∃ x F' cs' lo', e = .returned (.int .i64 x) ∧ DskS w' O g F' G cs' lo' ∧ DP F' G cs' lo' (i + 1) ∧ Tch O w w' := by
  by_cases h0 : s.size = 0
  · refine (append_bad g s _ w h0).mono ?_
    rintro e w' ⟨rfl, rfl⟩
    exact ⟨2, F, cs, lo, rfl, h, hP.skip, ⟨rfl, rfl, rfl, Nat.le_refl _, fun _ _ _ => rfl⟩⟩
  · have hz := hb.1
    have hlen := hP.len
    have hcnt := hP.cnt
    have hPA := hP.append s z hs (by omega)
    rw [hz] at hPA
    rcases h with h | ⟨h, h1, rfl, rfl, rfl, rfl⟩
    · refine (append_m O g F G cs lo s a n cap z w h hO (by omega) hs (hP.capN.mono (by omega)) (by omega) (by omega) hb (by omega) hab).mono ?_
      rintro e w' ⟨rfl, k1, k2⟩
      exact ⟨0, _, _, _, rfl, Or.inl k1, hPA, k2⟩
    · refine (append_0 O g s a n cap z w h h1 hO (by omega) hs hb (by omega) hab).mono ?_
      rintro e w' ⟨rfl, k1, k2⟩
      exact ⟨0, _, _, _, rfl, Or.inl k1, hPA, k2⟩

theorem sync_s (O : Nat → Prop) (g i : Nat) (F G : Files) (cs : List (ByteArray × Nat)) (lo : List Int) (w : World) (h : DskS w O g F G cs lo) (hP : DP F G cs lo i) (hi : i ≤ 20) (hO : ∀ k, w.heap.size ≤ k → O k) :
    Calls Try.prog 20 #[.pointer (some ⟨g, 0, none⟩)] w fun e w' => e = .returned (.tuple #[]) ∧ DskS w' O g F F [] [] ∧ Tch O w w' := by
  have hlen := hP.len
  have hcnt := hP.cnt
  rcases h with h | ⟨h, h1, rfl, rfl, rfl, rfl⟩
  · refine (sync_m O g F G cs lo w h hO (hP.capS.mono (by omega)) (by omega) (by omega) (fun p hp => by have := (hP.each p hp).1; omega)).mono ?_
    rintro e w' ⟨rfl, k1, k2⟩
    rw [← hP.redo] at k1
    exact ⟨rfl, Or.inl k1, k2⟩
  · refine (sync_0 g w h).mono ?_
    rintro e w' ⟨rfl, k1, k2⟩
    exact ⟨rfl, Or.inr ⟨k1, h1, rfl, rfl, rfl, rfl⟩, (Tch.of k2).mono (fun k _ e => (Option.some.inj e).symm ▸ h1)⟩

theorem read_s (O : Nat → Prop) (g : Nat) (F G : Files) (cs : List (ByteArray × Nat)) (lo : List Int) (s : ByteArray) (w : World) (h : DskS w O g F G cs lo) (hc : capF F 60000) :
    Calls Try.prog 22 #[.pointer (some ⟨g, 0, none⟩), .string s] w fun e w' => Below w.heap.size w w' ∧ ((F s = none ∧ e = .returned (.tuple #[.slice none 0 0, .int .i64 3])) ∨ ∃ z a cap, F s = some z ∧ e = .returned (.tuple #[.slice a z.length cap, .int .i64 0]) ∧ w'.ownsInts w.heap.size 5 .u8 (.slice a z.length cap) z) := by
  rcases h with h | ⟨h, h1, rfl, rfl, rfl, rfl⟩
  · exact read_m O g F G cs lo s w h hc
  · refine (read_0 g s w h).mono ?_
    rintro e w' ⟨rfl, rfl⟩
    exact ⟨Below.refl _ _, Or.inl ⟨rfl, rfl⟩⟩

theorem list_s (O : Nat → Prop) (g N : Nat) (F G : Files) (cs : List (ByteArray × Nat)) (lo : List Int) (w : World) (h : DskS w O g F G cs lo) (hN : namF F N) (hN1 : N ≤ 1000) :
    Calls Try.prog 21 #[.pointer (some ⟨g, 0, none⟩)] w fun e w' => ∃ v ns, e = .returned v ∧ NamesOf F ns ∧ OwnS w' w.heap.size v ns ∧ Below w.heap.size w w' := by
  rcases h with h | ⟨h, h1, rfl, rfl, rfl, rfl⟩
  · exact list_m O g N F G cs lo w h hN hN1
  · exact list_0 g w h

theorem loose_s (O : Nat → Prop) (g : Nat) (F G : Files) (cs : List (ByteArray × Nat)) (lo : List Int) (w : World) (h : DskS w O g F G cs lo) :
    Calls Try.prog 24 #[.pointer (some ⟨g, 0, none⟩)] w fun e w' => e = .returned (.int .i64 lo.length) ∧ w' = w := by
  rcases h with h | ⟨h, h1, rfl, rfl, rfl, rfl⟩
  · exact loose_m O g F G cs lo w h
  · exact loose_any g 0 0 _ _ _ _ w h

theorem crash_s (O : Nat → Prop) (g i : Nat) (F G : Files) (cs : List (ByteArray × Nat)) (lo : List Int) (kept bad : Int) (w : World) (h : DskS w O g F G cs lo) (hP : DP F G cs lo i) (hi : i ≤ 25 ∨ capF G 1000 ∧ i ≤ 40) (hk : (Lit.int .i64 kept).wf = true) (hbad : (Lit.int .i64 bad).wf = true) :
    Calls Try.prog 23 #[.pointer (some ⟨g, 0, none⟩), .int .i64 kept, .int .i64 bad] w fun e w' => ∃ g' C, e = .returned (.pointer (some ⟨g', 0, none⟩)) ∧ CrashOf (redoF G cs (lo.take (keptN kept lo.length))) bad C ∧ Dsk w' (fun k => w.heap.size ≤ k) g' C C [] [] ∧ Below w.heap.size w w' ∧ w.heap.size ≤ g' := by
  have hlen := hP.len
  have hcnt := hP.cnt
  have hi40 : i ≤ 40 := by omega
  have hcG : capF G 1000 := by
    rcases hi with hi | hi
    · exact hP.capS.mono (by omega)
    · exact hi.1
  rcases h with ⟨r1, r2, l1, c1, l2, c2, sv, lv, h⟩ | ⟨h, h1, rfl, rfl, rfl, rfl⟩
  · obtain ⟨sa, sn, sc, rfl⟩ := h.since.shape
    obtain ⟨a, cap, lb, rfl, hbs, hlb, hlr, hlw⟩ := loose_block h.loose (fun k hk => (h.lrow k hk).2) h.syn.ne h.syn.mp.lt
    exact crash_gen g (some r1) (some r2) G cs lo sa a sn sc lo.length cap lb kept bad w h.obj (filesCopy_some r2 l2 c2 G w h.syn (hcG.mono (by omega))) h.since hbs hlb (fun _ => hlw) hcG (by omega) (by omega) (fun p hp => by have := (hP.each p hp).1; omega) (fun p hp => (hP.each p hp).2) (hP.namS.mono (by omega)) hk hbad _ rfl
  · exact crash_gen g none none noF [] [] none none 0 0 0 0 0 kept bad w h (filesCopy_nil w) (OwnC.nil _) (Bs.nil w) (fun ad e => by cases e) (fun e => absurd rfl e) (fun s z h => (by cases h)) (by omega) (by simp) (by simp) (by simp) (namF.none.mono (by omega)) hk hbad _ rfl

theorem namF.turn {F : Files} {N : Nat} (h : namF F N) (ns : List ByteArray) (hns : ∀ s ∈ ns, F s ≠ Option.none) (k : Nat) : namF (turnF F ns k) N := by
  have key := turnF_keys F ns k hns
  refine ⟨fun s z hz => ?_, fun ks h1 h2 => h.few ks h1 (fun s hs e => h2 s hs ((key s).2 e))⟩
  cases hF : F s with
  | none => rw [(key s).2 hF] at hz; cases hz
  | some y => exact h.short s y hF

/-- What a crash leaves is no more than there was. -/
theorem CrashOf.caps {C0 C : Files} {bad : Int} {M N : Nat} (h : CrashOf C0 bad C) (hc : capF C0 M) (hN : namF C0 N) : capF C M ∧ namF C N := by
  rcases h with ⟨_, rfl⟩ | ⟨_, ns, h1, rfl⟩
  · exact ⟨hc, hN⟩
  · exact ⟨hc.turn ns _, hN.turn ns (fun s hs => (h1.2.1 s).1 hs) _⟩
end Go.Proofs.Ytjdbkmjhjcmoaaa
