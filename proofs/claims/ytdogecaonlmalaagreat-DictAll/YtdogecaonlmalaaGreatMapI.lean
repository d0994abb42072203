/- Maps whose keys are numbers of 64 bits. -/
import Derived.Test.YtdogecaonlmalaaGreatMapG
namespace Go.Proofs.YtdogecaonlmalaaGreat
open Go.RowKit Go.MapKept Go.ChangeMaps

def i6E (n : Int) : Value := .int .i64 n
theorem isKeyI6 (n : Int) : IsKey (.int .i64) (.int .i64 n) := by simp [IsKey]
theorem findNow_i6 (a : Int) (l : List (Ent Int)) (i : Nat) : Instr.findNow (.int .i64) (.int .i64 a) (l.map (Ent.e i6E)) i = some (idxE a l i) := by
  induction l generalizing i with
  | nil => rfl
  | cons x l ih =>
    rw [List.map_cons, idxE]
    show (match Instr.sameNow (.int .i64) (.int .i64 a) (.int .i64 x.k) with | some true => some (some (i, x.v)) | some false => Instr.findNow (.int .i64) (.int .i64 a) (l.map (Ent.e i6E)) (i + 1) | none => none) = _
    have hs : Instr.sameNow (.int .i64) (.int .i64 a) (.int .i64 x.k) = some (a == x.k) := rfl
    rw [hs]
    by_cases e : x.k = a
    · have : (a == x.k) = true := beq_iff_eq.2 e.symm
      rw [this, if_pos e]
    · have : (a == x.k) = false := beq_eq_false_iff_ne.2 (fun h => e h.symm)
      rw [this, if_neg e]
      exact ih (i + 1)
theorem i6Keyd : Keyd i6E 2 where
  inj := fun a b h => by simpa [i6E] using h
  chk := fun e a w => run_checkKey Tryz.underlying2 (isKeyI6 a) e 9999
  fnd := fun l a w _ => run_findKey Tryz.underlying2 (findNow_i6 a l 0)
  stays := fun a w => by simp [Instr.keyThatStays, i6E, Instr.sameBits]
end Go.Proofs.YtdogecaonlmalaaGreat
