/- For the statement StoreRoom: a store without objects lists nothing; rows of integers; names. -/
import Derived.Test.YtgpfpmocdmeldaaStore5
import Derived.Test.YtgpfpmocdmeldaaLawB
import Derived.Test.YtgpfpmocdmeldaaBegunA
namespace Go.Proofs.Ytgpfpmocdmeldaa
open Go.RowKit Go.MapKept Go.ChangeMaps

theorem range_nilE {kt et T : TypeId} (hT : Try.prog.underlying T = some (.map kt et)) (w : World) : (Instr.range T (.map none)).run Try.prog w = .ok (.pointer (some ⟨w.heap.size, 0, none⟩)) (w.alloc (.mapIter none 0 #[] 0)) := by
  simp [Instr.range, run_underlying hT]
theorem next_nilE {w : World} {g : Nat} (h : w.heap[g]? = some (.mapIter none 0 #[] 0)) (ty : TypeId) : (Instr.next (.pointer (some ⟨g, 0, none⟩)) false ty).run Try.prog w = .ok (.tuple #[.bool false]) w := by
  simp [Instr.next, getObj, Sem.run, h]

set_option maxRecDepth 100000 in
theorem storeList6_nil (g : Nat) (room used : Int) (f : ByteArray) (w : World) (h : w.heap[g]? = some (stObj room used none)) :
    Calls Try.prog 16 #[.pointer (some ⟨g, 0, none⟩), .string f] w fun e w' => e = .returned (.slice none 0 0) ∧ Below w.heap.size w w' := by
  obtain ⟨c0, c1, c2, f1, f2⟩ := st_cells h
  have rg := range_nilE und98 w
  have nx := next_nilE (heap_alloc_new w (.mapIter none 0 #[] 0)) 0
  have HB := hide (below_alloc w (.mapIter none 0 #[] 0) w.heap.size (Nat.le_refl _))
  have HSo := hide (fun W => Any.slices_Sort_string_none sortLays none 0 W)
  clear h
  go_enter Try.func16, Try.ntmps16
  go_wp2
  refine wp_loop_rounds 1 ?_
  rw [rounds_succ]
  go_wp2_with fail
  refine (HSo.out _).mono ?_
  rintro e W1 ⟨rfl, rfl⟩
  go_wp2
  go_ret
  exact ⟨rfl, HB.out⟩

theorem infoIn : (Try.prog.info? 3).map (fun i => (i.zero, i.size, i.bytes)) = some (some (.int .i64 0), 1, 8) := by kernel_rfl

/-- append(own, x) of a row of integers. -/
theorem wpList_appIn {w : World} {ops : Array Oper} {rest : List Oper} {o : Oper} {a : Act} {Q : Exit → Act → World → Prop} (hgd : o.guard = none) (s x : Operand)
    (ho : o.op = .call { callee := .builtin .append, args := #[s, x], argTypes := #[29, 29] })
    (B : Nat) (v : Value) (ss : List Int) (hs : a.eval s = v) (hown : w.ownsRow B 3 1 v ss.length (ss.map (Value.int .i64))) (q : Nat) (t : Int) (hx : a.eval x = .slice (some ⟨q, 0, none⟩) 1 1) (hq : w.cell? ⟨q, 0, none⟩ = some (.int .i64 t)) (hsz : ss.length ≤ 1000000) (hB : B ≤ w.heap.size)
    (h : ∀ v' w', w'.ownsRow B 3 1 v' (ss ++ [t]).length ((ss ++ [t]).map (Value.int .i64)) → w.grownBy w' v.ownBlock → (v'.ownBlock = v.ownBlock ∨ v'.ownBlock = some w.heap.size) → wpList Try.prog ops Q rest (a.put o.dst v') w') :
    wpList Try.prog ops Q (o :: rest) a w := by
  obtain ⟨i0, hi, hz0, hz1, hz2⟩ := info_parts infoIn
  refine wpList_append_own_at w hgd s x 29 ho B 3 i0 (.int .i64 0) 1 8 Try.underlying29 hi hz0 hz1 hz2 rfl (by decide) v ss.length (ss.map (Value.int .i64)) hs hown ⟨q, 0, none⟩ 1 1 [.int .i64 t] hx rfl ?_ (by simp [Value.oneCell']) (by simp only [maxLen]; omega) (by omega) hB ?_
  · intro j u hj
    have : j = 0 := by
      cases j with
      | zero => rfl
      | succ j => simp at hj
    subst this
    simp at hj
    subst hj
    rw [Go.Proofs.Ytgpfpmocdmeldaa.add_none]
    exact hq
  · intro v' w' h2 h3 _ h5
    refine h v' w' ?_ h3 h5
    rw [List.length_append, List.map_append]
    exact h2

/-- The i-th name. -/
def nameN (i : Nat) : ByteArray := ⟨#[111, UInt8.ofNat (97 + i)]⟩
theorem nameN_eq (i : Nat) (hi : i < 20) : ({ data := #[111] } : ByteArray) ++ strOfNums [97 + (i : Int)] = nameN i := by
  have e : strOfNums [97 + (i : Int)] = ⟨#[UInt8.ofNat (97 + i)]⟩ := by
    unfold strOfNums
    have : (97 + (i : Int)).toNat = 97 + i := by omega
    simp [this]
  rw [e]
  rfl
theorem nameN_size (i : Nat) : (nameN i).size = 2 := rfl
theorem nameN_inj {i j : Nat} (hi : i < 20) (hj : j < 20) (h : nameN i = nameN j) : i = j := by
  unfold nameN at h
  have h2 : UInt8.ofNat (97 + i) = UInt8.ofNat (97 + j) := by simpa using h
  have h3 := congrArg UInt8.toNat h2
  simp only [UInt8.toNat_ofNat'] at h3
  omega
theorem nameN_le {i j : Nat} (hj : j < 20) (h : i ≤ j) : (nameN i).data.toList ≤ (nameN j).data.toList := by
  have key : UInt8.ofNat (97 + i) < UInt8.ofNat (97 + j) ∨ i = j := by
    rcases Nat.lt_or_eq_of_le h with h1 | h1
    · left
      rw [UInt8.lt_iff_toNat_lt]
      simp only [UInt8.toNat_ofNat']
      omega
    · exact Or.inr h1
  rcases key with h1 | rfl
  · show [111, UInt8.ofNat (97 + i)] ≤ [111, UInt8.ofNat (97 + j)]
    rw [List.cons_le_cons_iff]
    right
    refine ⟨rfl, ?_⟩
    rw [List.cons_le_cons_iff]
    exact Or.inl h1
  · exact List.le_refl _
theorem pre_o (i : Nat) : preB ⟨#[111]⟩ (nameN i) = true := by
  unfold preB
  rw [ByteArray.toList_eq, ByteArray.toList_eq]
  have e : (⟨#[111]⟩ : ByteArray).size = 1 := rfl
  rw [e, nameN_size, ByteArray.data_extract]
  simp [nameN]
theorem pre_none (s : ByteArray) : preB ⟨#[]⟩ s = true := by
  unfold preB
  rw [ByteArray.toList_eq, ByteArray.toList_eq]
  have e : (⟨#[]⟩ : ByteArray).size = 0 := rfl
  rw [e, ByteArray.data_extract]
  simp

set_option maxRecDepth 100000 in
theorem storeNew6 (k : Int) (hk : 0 ≤ k) (w : World) :
    Calls Try.prog 12 #[.int .i64 k] w fun e w' => e = .returned (.pointer (some ⟨w.heap.size, 0, none⟩)) ∧ w' = w.alloc (stObj k 0 none) := by
  go_enter Try.func12, Try.ntmps12
  go_wp2
  go_ret
  exact ⟨rfl, rfl⟩

/-- A row that lies apart from a store stays. -/
theorem row_fr {w w' : World} {B g : Nat} {mo : Option Nat} {e : TypeId} {v : Value} {n : Nat} {xs : List Value} (h : w.ownsRow B e 1 v n xs) (hf : Fr w w' g mo) (h1 : v.ownBlock ≠ some g) (h2 : ∀ k, mo = some k → v.ownBlock ≠ some k) : w'.ownsRow B e 1 v n xs := by
  obtain ⟨q1, q2⟩ := h
  refine ⟨q1, ?_⟩
  rcases q2 with q2 | ⟨g', cap, cur, rfl, hg', hh, rest⟩
  · exact Or.inl q2
  · exact Or.inr ⟨g', cap, cur, rfl, hg', (hf g' (lt_of_heap hh) (fun e => h1 (by rw [e]; rfl)) (fun e => h2 g' e rfl)).trans hh, rest⟩

/-- The cells of a row of integers. -/
theorem rowI_cells {w : World} {B : Nat} {v : Value} {ss : List Int} (h : w.ownsRow B 3 1 v ss.length (ss.map (Value.int .i64))) : ∃ pa c, v = .slice pa ss.length c ∧ (0 < ss.length → ∃ g, pa = some ⟨g, 0, none⟩ ∧ ∀ i s, ss[i]? = some s → w.cell? ⟨g, i, none⟩ = some (.int .i64 s)) := by
  obtain ⟨h1, h2⟩ := h
  rcases h2 with ⟨rfl, h0⟩ | ⟨g, cap, cur, rfl, hg, hh, hn, hm, hs, ht⟩
  · rw [h0]; exact ⟨none, 0, rfl, fun h => absurd h (by omega)⟩
  · refine ⟨_, cap, rfl, fun _ => ⟨g, rfl, fun i s hi => ?_⟩⟩
    have hil := (List.getElem?_eq_some_iff.1 hi).1
    have hc : cur[i]? = some (.int .i64 s) := by
      have e : (cur.toList.take (ss.length * 1))[i]? = (ss.map (Value.int .i64))[i]? := by rw [ht]
      rw [List.getElem?_take, if_pos (by omega), List.getElem?_map, hi] at e
      simpa using e
    simp [World.cell?, hh, hc]

/-- The bytes that make lays. -/
theorem Bs.made (w : World) (n : Nat) (hn : n ≤ 1000) : Bs (w.alloc (.cells (madeCells #[.int .u8 0] n) 5)) (some ⟨w.heap.size, 0, none⟩) n n (List.replicate n 0) := by
  have := Bs.lit w (List.replicate n 0) (0, 0) (by intro x hx; rw [List.mem_replicate] at hx; omega) (by simp; omega)
  have e : (((List.replicate n (0 : Int)).map (Value.int .u8)).toArray) = madeCells #[.int .u8 0] n := by
    apply Array.ext'
    rw [toList_madeCells_one]
    simp
  rw [e] at this
  simpa using this

def lenE (x : Ent ByteArray) : Nat := lenV x.v
def lenI (x : Ent ByteArray) : Int := (lenV x.v : Int)

theorem sum_snoc (l : List (Ent ByteArray)) (x : Ent ByteArray) : ((l ++ [x]).map lenE).sum = (l.map lenE).sum + lenE x := by simp

/-- The first of the rest, looked for and gone. -/
theorem first_at {l : List (Ent ByteArray)} {k : Nat} {x : Ent ByteArray} (hn : (l.map Ent.k).Nodup) (hk : l[k]? = some x) : atE (l.drop k) x.k = some x.v ∧ delE (l.drop k) x.k = l.drop (k + 1) ∧ ((l.drop k).map lenE).sum = lenE x + ((l.drop (k + 1)).map lenE).sum := by
  obtain ⟨hlt, rfl⟩ := List.getElem?_eq_some_iff.1 hk
  rw [List.drop_eq_getElem_cons hlt]
  have hn2 : ((l.drop k).map Ent.k).Nodup := hn.sublist (List.Sublist.map _ (List.drop_sublist k l))
  rw [List.drop_eq_getElem_cons hlt, List.map_cons, List.nodup_cons] at hn2
  refine ⟨?_, ?_, ?_⟩
  · rw [atE, idxE, if_pos rfl]; rfl
  · rw [delE, List.filter_cons, if_neg (by simp)]
    exact delE_not hn2.1
  · rw [List.map_cons, List.sum_cons]

theorem len300 (x : Int) : ∃ (r : Int) (i : Nat), x.tmod 300 = r ∧ -300 < r ∧ r < 300 ∧ (r + 300) % 300 = (i : Int) ∧ i < 300 := by
  obtain ⟨r, i, h1, h2, h3, h4, h5⟩ := place x 300 (by omega)
  exact ⟨r, i, h1, h2, h3, h4, h5⟩
theorem len60 (x : Int) : ∃ (r : Int) (i : Nat), x.tmod 60 = r ∧ -60 < r ∧ r < 60 ∧ (r + 60) % 60 = (i : Int) ∧ i < 60 := by
  obtain ⟨r, i, h1, h2, h3, h4, h5⟩ := place x 60 (by omega)
  exact ⟨r, i, h1, h2, h3, h4, h5⟩

/-- Names of rising numbers: each once, in order. -/
theorem names_ones (J : List Nat) (hp : J.Pairwise (· < ·)) (hj : ∀ j ∈ J, j < 20) : (J.map nameN).Nodup := by
  rw [List.Nodup, List.pairwise_map]
  refine hp.imp_of_mem fun ha hb h e => ?_
  have := nameN_inj (hj _ ha) (hj _ hb) e
  omega
theorem names_rise (J : List Nat) (hp : J.Pairwise (· < ·)) (hj : ∀ j ∈ J, j < 20) : ((J.map nameN).map fun s => s.data.toList).Pairwise (· ≤ ·) := by
  rw [List.map_map, List.pairwise_map]
  exact hp.imp_of_mem fun _ hb h => nameN_le (hj _ hb) (Nat.le_of_lt h)
theorem names_new (J : List Nat) (k : Nat) (hj : ∀ j ∈ J, j < k) (hk : k < 20) : nameN k ∉ J.map nameN := by
  intro h
  obtain ⟨j, hm, e⟩ := List.mem_map.1 h
  have h1 := hj j hm
  have := nameN_inj (by omega) hk e
  omega
end Go.Proofs.Ytgpfpmocdmeldaa
