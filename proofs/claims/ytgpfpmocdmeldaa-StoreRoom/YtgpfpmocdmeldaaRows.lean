/-
  No cell of these rows narrows 'for every input' (looked for: loops, veiled, ifaces, maps, wideKeys, modest, calm, conditions, laid).
  DERIVED. THE GIVEN ROWS OF THIS SEAT. 5 by the template 'for every input the law returns true; each argument reads behind the call as it read before'; 0 by the template 'total and deterministic' (their statements: YtgpfpmocdmeldaaTotals.lean).
  GIVEN WITH THE SEED: the statements are not yours to turn. If you find one false, say at which input.
  Laid BY PROGRAM, IN A SANDBOX (cutbox-rows.mjs): the forced cells as the released guide's own fill.sh prints them over the translation 9b6302dd13a992d4… (all of the seat's roots in one cut). By AI agents, Wed Nov 11 2026. No macro, syntax, notation, axiom, sorry.
-/
import Derived.Test.YtgpfpmocdmeldaaChecked
import GoSem.Claim
import GoSem.ClaimJoined
import GoSem.ClaimMapViews
import Derived.JoinedTies
import Derived.KernelRfl
namespace Go.Proofs.Ytgpfpmocdmeldaa
/- THE CELL 'sum', in the pinned program and in every row, IS THE sha256 OF THE DUMP (.gsa) THAT YtgpfpmocdmeldaaProg.lean LOADS. Nothing in Lean hashes anything: it is a label: what it is worth is what the hold of that sum in a sandbox is worth. -/
noncomputable def Try.pinned : Pinned := { name := "ytgpfpmocdmeldaa", sum := "9b6302dd13a992d4c10351cdf7d1fd9db44209509b1629b4a60801b46f39ad53", checked := Try.checked }
namespace Rows
def none {H : Type} : Left H := { results := [], args := [] }

/-- 'remembrancerlaw1.MutKeys': WHATEVER THE INPUT: true; the input reads as it did. -/
def mutKeysSpec : ChangeSpec := { name := "mutKeys", fn := fun _ => fun
  | [d1, d2, d3, d4, d5, d6] => { results := [.lit (.bool true)], args := [d1, d2, d3, d4, d5, d6] }
  | _ => none }
def mutKeysRow : OpenClaim := { program := "ytgpfpmocdmeldaa", sum := "9b6302dd13a992d4c10351cdf7d1fd9db44209509b1629b4a60801b46f39ad53", func := "remembrancer/remembrancerlaw1.MutKeys", spec := "mutKeys", unfollowed := true, recurses := true, apart := false }
def MutKeysSaid : Prop := mutKeysRow.holds Try.pinned (OpenSpec.ofChange mutKeysSpec)

/-- ITS FALSE NEIGHBOUR: 'it returns false'. Refute it at one input. -/
def mutKeysWrong : ChangeSpec := { name := "mutKeys", fn := fun _ => fun
  | [d1, d2, d3, d4, d5, d6] => { results := [.lit (.bool false)], args := [d1, d2, d3, d4, d5, d6] }
  | _ => none }
def MutKeysWrongFalsely : Prop := mutKeysRow.holds Try.pinned (OpenSpec.ofChange mutKeysWrong)

/-- 'remembrancerlaw1.StoreRoom': WHATEVER THE INPUT: true; the input reads as it did. -/
def storeRoomSpec : ChangeSpec := { name := "storeRoom", fn := fun _ => fun
  | [d1, d2] => { results := [.lit (.bool true)], args := [d1, d2] }
  | _ => none }
def storeRoomRow : OpenClaim := { program := "ytgpfpmocdmeldaa", sum := "9b6302dd13a992d4c10351cdf7d1fd9db44209509b1629b4a60801b46f39ad53", func := "remembrancer/remembrancerlaw1.StoreRoom", spec := "storeRoom", unfollowed := true, recurses := true, apart := false }
def StoreRoomSaid : Prop := storeRoomRow.holds Try.pinned (OpenSpec.ofChange storeRoomSpec)

/-- ITS FALSE NEIGHBOUR: 'it returns false'. Refute it at one input. -/
def storeRoomWrong : ChangeSpec := { name := "storeRoom", fn := fun _ => fun
  | [d1, d2] => { results := [.lit (.bool false)], args := [d1, d2] }
  | _ => none }
def StoreRoomWrongFalsely : Prop := storeRoomRow.holds Try.pinned (OpenSpec.ofChange storeRoomWrong)

/-- 'remembrancerlaw1.DiskSynced': WHATEVER THE INPUT: true; the input reads as it did. -/
def diskSyncedSpec : ChangeSpec := { name := "diskSynced", fn := fun _ => fun
  | [d1, d2, d3] => { results := [.lit (.bool true)], args := [d1, d2, d3] }
  | _ => none }
def diskSyncedRow : OpenClaim := { program := "ytgpfpmocdmeldaa", sum := "9b6302dd13a992d4c10351cdf7d1fd9db44209509b1629b4a60801b46f39ad53", func := "remembrancer/remembrancerlaw1.DiskSynced", spec := "diskSynced", unfollowed := true, recurses := true, apart := false }
def DiskSyncedSaid : Prop := diskSyncedRow.holds Try.pinned (OpenSpec.ofChange diskSyncedSpec)

/-- ITS FALSE NEIGHBOUR: 'it returns false'. Refute it at one input. -/
def diskSyncedWrong : ChangeSpec := { name := "diskSynced", fn := fun _ => fun
  | [d1, d2, d3] => { results := [.lit (.bool false)], args := [d1, d2, d3] }
  | _ => none }
def DiskSyncedWrongFalsely : Prop := diskSyncedRow.holds Try.pinned (OpenSpec.ofChange diskSyncedWrong)

/-- 'remembrancerlaw1.DiskTurned': WHATEVER THE INPUT: true; the input reads as it did. -/
def diskTurnedSpec : ChangeSpec := { name := "diskTurned", fn := fun _ => fun
  | [d1, d2] => { results := [.lit (.bool true)], args := [d1, d2] }
  | _ => none }
def diskTurnedRow : OpenClaim := { program := "ytgpfpmocdmeldaa", sum := "9b6302dd13a992d4c10351cdf7d1fd9db44209509b1629b4a60801b46f39ad53", func := "remembrancer/remembrancerlaw1.DiskTurned", spec := "diskTurned", unfollowed := true, recurses := true, apart := false }
def DiskTurnedSaid : Prop := diskTurnedRow.holds Try.pinned (OpenSpec.ofChange diskTurnedSpec)

/-- ITS FALSE NEIGHBOUR: 'it returns false'. Refute it at one input. -/
def diskTurnedWrong : ChangeSpec := { name := "diskTurned", fn := fun _ => fun
  | [d1, d2] => { results := [.lit (.bool false)], args := [d1, d2] }
  | _ => none }
def DiskTurnedWrongFalsely : Prop := diskTurnedRow.holds Try.pinned (OpenSpec.ofChange diskTurnedWrong)

/-- 'remembrancerlaw1.MutOrder': WHATEVER THE INPUT: true; the input reads as it did. -/
def mutOrderSpec : ChangeSpec := { name := "mutOrder", fn := fun _ => fun
  | [d] => { results := [.lit (.bool true)], args := [d] }
  | _ => none }
def mutOrderRow : OpenClaim := { program := "ytgpfpmocdmeldaa", sum := "9b6302dd13a992d4c10351cdf7d1fd9db44209509b1629b4a60801b46f39ad53", func := "remembrancer/remembrancerlaw1.MutOrder", spec := "mutOrder", unfollowed := true, recurses := true, apart := false }
def MutOrderSaid : Prop := mutOrderRow.holds Try.pinned (OpenSpec.ofChange mutOrderSpec)

/-- ITS FALSE NEIGHBOUR: 'it returns false'. Refute it at one input. -/
def mutOrderWrong : ChangeSpec := { name := "mutOrder", fn := fun _ => fun
  | [d] => { results := [.lit (.bool false)], args := [d] }
  | _ => none }
def MutOrderWrongFalsely : Prop := mutOrderRow.holds Try.pinned (OpenSpec.ofChange mutOrderWrong)

/- THE SECOND FORM. 'bulk': how many values and letters a reading holds, each counted each time it is reached (what is shared counts as often as it is met; a slice's spare places count too). A statement '..UptoSaid' is the law's where the arguments, and the package variables that the reading takes, are together of bulk at most 1048576: NARROWER than '..Said'. Prove '..Said' where nothing that the law and all that it calls make is longer than what came in: it says more and counts as full. Else prove '..UptoSaid'. A law counts once. -/
mutual
def uptoBulk {H : Type} : DataW H → Nat
  | .lit (.string bytes) => bytes.length + 1
  | .lit _ => 1
  | .nil => 1
  | .ptr d => uptoBulk d + 1
  | .slice elems spare => uptoBulkAll elems + uptoBulkAll spare + 1
  | .agg parts => uptoBulkAll parts + 1
  | .iface _ d => uptoBulk d + 1
  | .map entries => uptoBulkEntries entries + 1
  | .held _ => 1
def uptoBulkAll {H : Type} : List (DataW H) → Nat
  | [] => 0
  | d :: r => uptoBulk d + uptoBulkAll r
def uptoBulkEntries {H : Type} : List (Lit × DataW H) → Nat
  | [] => 0
  | x :: r => uptoBulkEntry x + uptoBulkEntries r
def uptoBulkEntry {H : Type} : Lit × DataW H → Nat
  | (.string bytes, d) => bytes.length + uptoBulk d + 1
  | (_, d) => uptoBulk d + 1
 end
def uptoSmall : (H : Type) → List (DataW H) → Bool := fun _ ds => decide (uptoBulkAll ds ≤ 1048576)
def OpenSpec.upto (s : _root_.Go.ChangeSpec) : _root_.Go.OpenSpec := { _root_.Go.OpenSpec.ofChange s with cond := some uptoSmall }

/-- 'remembrancerlaw1.MutKeys', WHERE WHAT IT READS IS OF BULK AT MOST 1048576: true; the input reads as it did. -/
def mutKeysUptoRow : OpenClaim := { program := "ytgpfpmocdmeldaa", sum := "9b6302dd13a992d4c10351cdf7d1fd9db44209509b1629b4a60801b46f39ad53", func := "remembrancer/remembrancerlaw1.MutKeys", spec := "mutKeys", unfollowed := true, recurses := true, apart := false, narrowed := true }
def MutKeysUptoSaid : Prop := mutKeysUptoRow.holds Try.pinned (OpenSpec.upto mutKeysSpec)

/-- 'remembrancerlaw1.StoreRoom', WHERE WHAT IT READS IS OF BULK AT MOST 1048576: true; the input reads as it did. -/
def storeRoomUptoRow : OpenClaim := { program := "ytgpfpmocdmeldaa", sum := "9b6302dd13a992d4c10351cdf7d1fd9db44209509b1629b4a60801b46f39ad53", func := "remembrancer/remembrancerlaw1.StoreRoom", spec := "storeRoom", unfollowed := true, recurses := true, apart := false, narrowed := true }
def StoreRoomUptoSaid : Prop := storeRoomUptoRow.holds Try.pinned (OpenSpec.upto storeRoomSpec)

/-- 'remembrancerlaw1.DiskSynced', WHERE WHAT IT READS IS OF BULK AT MOST 1048576: true; the input reads as it did. -/
def diskSyncedUptoRow : OpenClaim := { program := "ytgpfpmocdmeldaa", sum := "9b6302dd13a992d4c10351cdf7d1fd9db44209509b1629b4a60801b46f39ad53", func := "remembrancer/remembrancerlaw1.DiskSynced", spec := "diskSynced", unfollowed := true, recurses := true, apart := false, narrowed := true }
def DiskSyncedUptoSaid : Prop := diskSyncedUptoRow.holds Try.pinned (OpenSpec.upto diskSyncedSpec)

/-- 'remembrancerlaw1.DiskTurned', WHERE WHAT IT READS IS OF BULK AT MOST 1048576: true; the input reads as it did. -/
def diskTurnedUptoRow : OpenClaim := { program := "ytgpfpmocdmeldaa", sum := "9b6302dd13a992d4c10351cdf7d1fd9db44209509b1629b4a60801b46f39ad53", func := "remembrancer/remembrancerlaw1.DiskTurned", spec := "diskTurned", unfollowed := true, recurses := true, apart := false, narrowed := true }
def DiskTurnedUptoSaid : Prop := diskTurnedUptoRow.holds Try.pinned (OpenSpec.upto diskTurnedSpec)

/-- 'remembrancerlaw1.MutOrder', WHERE WHAT IT READS IS OF BULK AT MOST 1048576: true; the input reads as it did. -/
def mutOrderUptoRow : OpenClaim := { program := "ytgpfpmocdmeldaa", sum := "9b6302dd13a992d4c10351cdf7d1fd9db44209509b1629b4a60801b46f39ad53", func := "remembrancer/remembrancerlaw1.MutOrder", spec := "mutOrder", unfollowed := true, recurses := true, apart := false, narrowed := true }
def MutOrderUptoSaid : Prop := mutOrderUptoRow.holds Try.pinned (OpenSpec.upto mutOrderSpec)

end Rows
end Go.Proofs.Ytgpfpmocdmeldaa
