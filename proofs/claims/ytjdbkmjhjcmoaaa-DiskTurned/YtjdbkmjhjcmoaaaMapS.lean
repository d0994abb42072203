/- Maps whose keys are strings. -/
import Derived.Test.YtjdbkmjhjcmoaaaMapG
namespace Go.Proofs.Ytjdbkmjhjcmoaaa
open Go.RowKit Go.MapKept Go.ChangeMaps

def strE (s : ByteArray) : Value := .string s

theorem findNow_str (a : ByteArray) (l : List (Ent ByteArray)) (i : Nat) : Instr.findNow .string (.string a) (l.map (Ent.e strE)) i = some (idxE a l i) := by
  induction l generalizing i with
  | nil => rfl
  | cons x l ih =>
    rw [List.map_cons, idxE]
    show (match Instr.sameNow .string (.string a) (.string x.k) with | some true => some (some (i, x.v)) | some false => Instr.findNow .string (.string a) (l.map (Ent.e strE)) (i + 1) | none => none) = _
    have hs : Instr.sameNow .string (.string a) (.string x.k) = some (a == x.k) := rfl
    rw [hs]
    by_cases e : x.k = a
    · have : (a == x.k) = true := (Go.MapKept.bytes_beq a x.k).2 e.symm
      rw [this, if_pos e]
    · have : (a == x.k) = false := by
        cases h : (a == x.k) with
        | false => rfl
        | true => exact absurd ((Go.MapKept.bytes_beq a x.k).1 h).symm e
      rw [this, if_neg e]
      exact ih (i + 1)

theorem strKeyd : Keyd strE 9 where
  inj := fun a b h => by simpa [strE] using h
  chk := fun e a w => run_checkKey Try.underlying9 (isKeyS a) e 9999
  fnd := fun l a w => run_findKey Try.underlying9 (findNow_str a l 0)
  bits := fun a => by simp [strE, Instr.sameBits, Go.Proofs.Ytjdbkmjhjcmoaaa.bytes_beq]
end Go.Proofs.Ytjdbkmjhjcmoaaa
