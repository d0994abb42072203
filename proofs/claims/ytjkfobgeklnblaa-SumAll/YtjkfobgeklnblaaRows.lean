/-
  No cell of these rows narrows 'for every input' (looked for: loops, veiled, ifaces, maps, wideKeys, modest, calm, conditions, laid).
  DERIVED. THE GIVEN ROWS OF THIS SEAT. 12 by the template 'for every input the law returns true; each argument reads behind the call as it read before'; 0 by the template 'total and deterministic' (their statements: YtjkfobgeklnblaaTotals.lean).
  GIVEN WITH THE SEED: the statements are not yours to turn. If you find one false, say at which input.
  Laid BY PROGRAM, IN A SANDBOX (cutbox-rows.mjs): the forced cells as the released guide's own fill.sh prints them over the translation 9c34311680c667ac… (all of the seat's roots in one cut). By AI agents, Wed Nov 11 2026. No macro, syntax, notation, axiom, sorry.
-/
import Derived.Test.YtjkfobgeklnblaaChecked
import GoSem.Claim
import GoSem.ClaimJoined
import GoSem.ClaimMapViews
import Derived.JoinedTies
import Derived.KernelRfl
namespace Go.Proofs.Ytjkfobgeklnblaa
/- THE CELL 'sum', in the pinned program and in every row, IS THE sha256 OF THE DUMP (.gsa) THAT YtjkfobgeklnblaaProg.lean LOADS. Nothing in Lean hashes anything: it is a label: what it is worth is what the hold of that sum in a sandbox is worth. -/
noncomputable def Try.pinned : Pinned := { name := "ytjkfobgeklnblaa", sum := "9c34311680c667acc186d3da1605fb2dc6eea5e11b9f941efe5f9349f098fc7e", checked := Try.checked }
namespace Rows
def none {H : Type} : Left H := { results := [], args := [] }

/-- 'remembrancerlaw1.NumAll': WHATEVER THE INPUT: true; the input reads as it did. -/
def numAllSpec : ChangeSpec := { name := "numAll", fn := fun _ => fun
  | [d1, d2, d3, d4] => { results := [.lit (.bool true)], args := [d1, d2, d3, d4] }
  | _ => none }
def numAllRow : OpenClaim := { program := "ytjkfobgeklnblaa", sum := "9c34311680c667acc186d3da1605fb2dc6eea5e11b9f941efe5f9349f098fc7e", func := "remembrancer/remembrancerlaw1.NumAll", spec := "numAll", unfollowed := true, recurses := true, apart := false }
def NumAllSaid : Prop := numAllRow.holds Try.pinned (OpenSpec.ofChange numAllSpec)

/-- ITS FALSE NEIGHBOUR: 'it returns false'. Refute it at one input. -/
def numAllWrong : ChangeSpec := { name := "numAll", fn := fun _ => fun
  | [d1, d2, d3, d4] => { results := [.lit (.bool false)], args := [d1, d2, d3, d4] }
  | _ => none }
def NumAllWrongFalsely : Prop := numAllRow.holds Try.pinned (OpenSpec.ofChange numAllWrong)

/-- 'remembrancerlaw1.NumText': WHATEVER THE INPUT: true; the input reads as it did. -/
def numTextSpec : ChangeSpec := { name := "numText", fn := fun _ => fun
  | [d1, d2, d3, d4] => { results := [.lit (.bool true)], args := [d1, d2, d3, d4] }
  | _ => none }
def numTextRow : OpenClaim := { program := "ytjkfobgeklnblaa", sum := "9c34311680c667acc186d3da1605fb2dc6eea5e11b9f941efe5f9349f098fc7e", func := "remembrancer/remembrancerlaw1.NumText", spec := "numText", unfollowed := true, recurses := true, apart := false }
def NumTextSaid : Prop := numTextRow.holds Try.pinned (OpenSpec.ofChange numTextSpec)

/-- ITS FALSE NEIGHBOUR: 'it returns false'. Refute it at one input. -/
def numTextWrong : ChangeSpec := { name := "numText", fn := fun _ => fun
  | [d1, d2, d3, d4] => { results := [.lit (.bool false)], args := [d1, d2, d3, d4] }
  | _ => none }
def NumTextWrongFalsely : Prop := numTextRow.holds Try.pinned (OpenSpec.ofChange numTextWrong)

/-- 'remembrancerlaw1.SumAll': WHATEVER THE INPUT: true; the input reads as it did. -/
def sumAllSpec : ChangeSpec := { name := "sumAll", fn := fun _ => fun
  | [d1, d2] => { results := [.lit (.bool true)], args := [d1, d2] }
  | _ => none }
def sumAllRow : OpenClaim := { program := "ytjkfobgeklnblaa", sum := "9c34311680c667acc186d3da1605fb2dc6eea5e11b9f941efe5f9349f098fc7e", func := "remembrancer/remembrancerlaw1.SumAll", spec := "sumAll", unfollowed := true, recurses := true, apart := false }
def SumAllSaid : Prop := sumAllRow.holds Try.pinned (OpenSpec.ofChange sumAllSpec)

/-- ITS FALSE NEIGHBOUR: 'it returns false'. Refute it at one input. -/
def sumAllWrong : ChangeSpec := { name := "sumAll", fn := fun _ => fun
  | [d1, d2] => { results := [.lit (.bool false)], args := [d1, d2] }
  | _ => none }
def SumAllWrongFalsely : Prop := sumAllRow.holds Try.pinned (OpenSpec.ofChange sumAllWrong)

/-- 'remembrancerlaw1.SumOne': WHATEVER THE INPUT: true; the input reads as it did. -/
def sumOneSpec : ChangeSpec := { name := "sumOne", fn := fun _ => fun
  | [d1, d2, d3] => { results := [.lit (.bool true)], args := [d1, d2, d3] }
  | _ => none }
def sumOneRow : OpenClaim := { program := "ytjkfobgeklnblaa", sum := "9c34311680c667acc186d3da1605fb2dc6eea5e11b9f941efe5f9349f098fc7e", func := "remembrancer/remembrancerlaw1.SumOne", spec := "sumOne", unfollowed := true, recurses := true, apart := false }
def SumOneSaid : Prop := sumOneRow.holds Try.pinned (OpenSpec.ofChange sumOneSpec)

/-- ITS FALSE NEIGHBOUR: 'it returns false'. Refute it at one input. -/
def sumOneWrong : ChangeSpec := { name := "sumOne", fn := fun _ => fun
  | [d1, d2, d3] => { results := [.lit (.bool false)], args := [d1, d2, d3] }
  | _ => none }
def SumOneWrongFalsely : Prop := sumOneRow.holds Try.pinned (OpenSpec.ofChange sumOneWrong)

/-- 'remembrancerlaw1.FrameLong': WHATEVER THE INPUT: true; the input reads as it did. -/
def frameLongSpec : ChangeSpec := { name := "frameLong", fn := fun _ => fun
  | [d1, d2] => { results := [.lit (.bool true)], args := [d1, d2] }
  | _ => none }
def frameLongRow : OpenClaim := { program := "ytjkfobgeklnblaa", sum := "9c34311680c667acc186d3da1605fb2dc6eea5e11b9f941efe5f9349f098fc7e", func := "remembrancer/remembrancerlaw1.FrameLong", spec := "frameLong", unfollowed := true, recurses := true, apart := false }
def FrameLongSaid : Prop := frameLongRow.holds Try.pinned (OpenSpec.ofChange frameLongSpec)

/-- ITS FALSE NEIGHBOUR: 'it returns false'. Refute it at one input. -/
def frameLongWrong : ChangeSpec := { name := "frameLong", fn := fun _ => fun
  | [d1, d2] => { results := [.lit (.bool false)], args := [d1, d2] }
  | _ => none }
def FrameLongWrongFalsely : Prop := frameLongRow.holds Try.pinned (OpenSpec.ofChange frameLongWrong)

/-- 'remembrancerlaw1.NumOrder': WHATEVER THE INPUT: true; the input reads as it did. -/
def numOrderSpec : ChangeSpec := { name := "numOrder", fn := fun _ => fun
  | [d1, d2] => { results := [.lit (.bool true)], args := [d1, d2] }
  | _ => none }
def numOrderRow : OpenClaim := { program := "ytjkfobgeklnblaa", sum := "9c34311680c667acc186d3da1605fb2dc6eea5e11b9f941efe5f9349f098fc7e", func := "remembrancer/remembrancerlaw1.NumOrder", spec := "numOrder", unfollowed := true, recurses := true, apart := false }
def NumOrderSaid : Prop := numOrderRow.holds Try.pinned (OpenSpec.ofChange numOrderSpec)

/-- ITS FALSE NEIGHBOUR: 'it returns false'. Refute it at one input. -/
def numOrderWrong : ChangeSpec := { name := "numOrder", fn := fun _ => fun
  | [d1, d2] => { results := [.lit (.bool false)], args := [d1, d2] }
  | _ => none }
def NumOrderWrongFalsely : Prop := numOrderRow.holds Try.pinned (OpenSpec.ofChange numOrderWrong)

/-- 'remembrancerlaw1.NumOwn': WHATEVER THE INPUT: true; the input reads as it did. -/
def numOwnSpec : ChangeSpec := { name := "numOwn", fn := fun _ => fun
  | [d1, d2, d3, d4] => { results := [.lit (.bool true)], args := [d1, d2, d3, d4] }
  | _ => none }
def numOwnRow : OpenClaim := { program := "ytjkfobgeklnblaa", sum := "9c34311680c667acc186d3da1605fb2dc6eea5e11b9f941efe5f9349f098fc7e", func := "remembrancer/remembrancerlaw1.NumOwn", spec := "numOwn", unfollowed := true, recurses := true, apart := false }
def NumOwnSaid : Prop := numOwnRow.holds Try.pinned (OpenSpec.ofChange numOwnSpec)

/-- ITS FALSE NEIGHBOUR: 'it returns false'. Refute it at one input. -/
def numOwnWrong : ChangeSpec := { name := "numOwn", fn := fun _ => fun
  | [d1, d2, d3, d4] => { results := [.lit (.bool false)], args := [d1, d2, d3, d4] }
  | _ => none }
def NumOwnWrongFalsely : Prop := numOwnRow.holds Try.pinned (OpenSpec.ofChange numOwnWrong)

/-- 'remembrancerlaw1.SumEnd': WHATEVER THE INPUT: true; the input reads as it did. -/
def sumEndSpec : ChangeSpec := { name := "sumEnd", fn := fun _ => fun
  | [d1, d2, d3] => { results := [.lit (.bool true)], args := [d1, d2, d3] }
  | _ => none }
def sumEndRow : OpenClaim := { program := "ytjkfobgeklnblaa", sum := "9c34311680c667acc186d3da1605fb2dc6eea5e11b9f941efe5f9349f098fc7e", func := "remembrancer/remembrancerlaw1.SumEnd", spec := "sumEnd", unfollowed := true, recurses := true, apart := false }
def SumEndSaid : Prop := sumEndRow.holds Try.pinned (OpenSpec.ofChange sumEndSpec)

/-- ITS FALSE NEIGHBOUR: 'it returns false'. Refute it at one input. -/
def sumEndWrong : ChangeSpec := { name := "sumEnd", fn := fun _ => fun
  | [d1, d2, d3] => { results := [.lit (.bool false)], args := [d1, d2, d3] }
  | _ => none }
def SumEndWrongFalsely : Prop := sumEndRow.holds Try.pinned (OpenSpec.ofChange sumEndWrong)

/-- 'remembrancerlaw1.FrameOne': WHATEVER THE INPUT: true; the input reads as it did. -/
def frameOneSpec : ChangeSpec := { name := "frameOne", fn := fun _ => fun
  | [d1, d2, d3] => { results := [.lit (.bool true)], args := [d1, d2, d3] }
  | _ => none }
def frameOneRow : OpenClaim := { program := "ytjkfobgeklnblaa", sum := "9c34311680c667acc186d3da1605fb2dc6eea5e11b9f941efe5f9349f098fc7e", func := "remembrancer/remembrancerlaw1.FrameOne", spec := "frameOne", unfollowed := true, recurses := true, apart := false }
def FrameOneSaid : Prop := frameOneRow.holds Try.pinned (OpenSpec.ofChange frameOneSpec)

/-- ITS FALSE NEIGHBOUR: 'it returns false'. Refute it at one input. -/
def frameOneWrong : ChangeSpec := { name := "frameOne", fn := fun _ => fun
  | [d1, d2, d3] => { results := [.lit (.bool false)], args := [d1, d2, d3] }
  | _ => none }
def FrameOneWrongFalsely : Prop := frameOneRow.holds Try.pinned (OpenSpec.ofChange frameOneWrong)

/-- 'remembrancerlaw1.FrameTorn': WHATEVER THE INPUT: true; the input reads as it did. -/
def frameTornSpec : ChangeSpec := { name := "frameTorn", fn := fun _ => fun
  | [d1, d2] => { results := [.lit (.bool true)], args := [d1, d2] }
  | _ => none }
def frameTornRow : OpenClaim := { program := "ytjkfobgeklnblaa", sum := "9c34311680c667acc186d3da1605fb2dc6eea5e11b9f941efe5f9349f098fc7e", func := "remembrancer/remembrancerlaw1.FrameTorn", spec := "frameTorn", unfollowed := true, recurses := true, apart := false }
def FrameTornSaid : Prop := frameTornRow.holds Try.pinned (OpenSpec.ofChange frameTornSpec)

/-- ITS FALSE NEIGHBOUR: 'it returns false'. Refute it at one input. -/
def frameTornWrong : ChangeSpec := { name := "frameTorn", fn := fun _ => fun
  | [d1, d2] => { results := [.lit (.bool false)], args := [d1, d2] }
  | _ => none }
def FrameTornWrongFalsely : Prop := frameTornRow.holds Try.pinned (OpenSpec.ofChange frameTornWrong)

/-- 'remembrancerlaw1.StoreAtom': WHATEVER THE INPUT: true; the input reads as it did. -/
def storeAtomSpec : ChangeSpec := { name := "storeAtom", fn := fun _ => fun
  | [d1, d2, d3] => { results := [.lit (.bool true)], args := [d1, d2, d3] }
  | _ => none }
def storeAtomRow : OpenClaim := { program := "ytjkfobgeklnblaa", sum := "9c34311680c667acc186d3da1605fb2dc6eea5e11b9f941efe5f9349f098fc7e", func := "remembrancer/remembrancerlaw1.StoreAtom", spec := "storeAtom", unfollowed := true, recurses := true, apart := false }
def StoreAtomSaid : Prop := storeAtomRow.holds Try.pinned (OpenSpec.ofChange storeAtomSpec)

/-- ITS FALSE NEIGHBOUR: 'it returns false'. Refute it at one input. -/
def storeAtomWrong : ChangeSpec := { name := "storeAtom", fn := fun _ => fun
  | [d1, d2, d3] => { results := [.lit (.bool false)], args := [d1, d2, d3] }
  | _ => none }
def StoreAtomWrongFalsely : Prop := storeAtomRow.holds Try.pinned (OpenSpec.ofChange storeAtomWrong)

/-- 'remembrancerlaw1.NumEdges': WHATEVER THE INPUT: true; the input reads as it did. -/
def numEdgesSpec : ChangeSpec := { name := "numEdges", fn := fun _ => fun
  | [] => { results := [.lit (.bool true)], args := [] }
  | _ => none }
def numEdgesRow : OpenClaim := { program := "ytjkfobgeklnblaa", sum := "9c34311680c667acc186d3da1605fb2dc6eea5e11b9f941efe5f9349f098fc7e", func := "remembrancer/remembrancerlaw1.NumEdges", spec := "numEdges", unfollowed := true, recurses := true, apart := false }
def NumEdgesSaid : Prop := numEdgesRow.holds Try.pinned (OpenSpec.ofChange numEdgesSpec)

/-- ITS FALSE NEIGHBOUR: 'it returns false'. Refute it at one input. -/
def numEdgesWrong : ChangeSpec := { name := "numEdges", fn := fun _ => fun
  | [] => { results := [.lit (.bool false)], args := [] }
  | _ => none }
def NumEdgesWrongFalsely : Prop := numEdgesRow.holds Try.pinned (OpenSpec.ofChange numEdgesWrong)

/- THE SECOND FORM. 'bulk': how many values and letters a reading holds, each counted each time it is reached (what is shared counts as often as it is met; a slice's spare places count too). A statement '..UptoSaid' is the law's where the arguments, and the package variables that the reading takes, are together of bulk at most 1048576: NARROWER than '..Said'. Prove '..Said' where nothing that the law and all that it calls make is longer than what came in: it says more and counts as full. Else prove '..UptoSaid'. A law counts once. -/
mutual
def uptoBulk {H : Type} : DataW H → Nat
  | .lit (.string bytes) => bytes.length + 1
  | .lit _ => 1
  | .nil => 1
  | .ptr d => uptoBulk d + 1
  | .slice elems spare => uptoBulkAll elems + uptoBulkAll spare + 1
  | .agg parts => uptoBulkAll parts + 1
  | .iface _ d => uptoBulk d + 1
  | .map entries => uptoBulkEntries entries + 1
  | .held _ => 1
def uptoBulkAll {H : Type} : List (DataW H) → Nat
  | [] => 0
  | d :: r => uptoBulk d + uptoBulkAll r
def uptoBulkEntries {H : Type} : List (Lit × DataW H) → Nat
  | [] => 0
  | x :: r => uptoBulkEntry x + uptoBulkEntries r
def uptoBulkEntry {H : Type} : Lit × DataW H → Nat
  | (.string bytes, d) => bytes.length + uptoBulk d + 1
  | (_, d) => uptoBulk d + 1
 end
def uptoSmall : (H : Type) → List (DataW H) → Bool := fun _ ds => decide (uptoBulkAll ds ≤ 1048576)
def OpenSpec.upto (s : _root_.Go.ChangeSpec) : _root_.Go.OpenSpec := { _root_.Go.OpenSpec.ofChange s with cond := some uptoSmall }

/-- 'remembrancerlaw1.NumAll', WHERE WHAT IT READS IS OF BULK AT MOST 1048576: true; the input reads as it did. -/
def numAllUptoRow : OpenClaim := { program := "ytjkfobgeklnblaa", sum := "9c34311680c667acc186d3da1605fb2dc6eea5e11b9f941efe5f9349f098fc7e", func := "remembrancer/remembrancerlaw1.NumAll", spec := "numAll", unfollowed := true, recurses := true, apart := false, narrowed := true }
def NumAllUptoSaid : Prop := numAllUptoRow.holds Try.pinned (OpenSpec.upto numAllSpec)

/-- 'remembrancerlaw1.NumText', WHERE WHAT IT READS IS OF BULK AT MOST 1048576: true; the input reads as it did. -/
def numTextUptoRow : OpenClaim := { program := "ytjkfobgeklnblaa", sum := "9c34311680c667acc186d3da1605fb2dc6eea5e11b9f941efe5f9349f098fc7e", func := "remembrancer/remembrancerlaw1.NumText", spec := "numText", unfollowed := true, recurses := true, apart := false, narrowed := true }
def NumTextUptoSaid : Prop := numTextUptoRow.holds Try.pinned (OpenSpec.upto numTextSpec)

/-- 'remembrancerlaw1.SumAll', WHERE WHAT IT READS IS OF BULK AT MOST 1048576: true; the input reads as it did. -/
def sumAllUptoRow : OpenClaim := { program := "ytjkfobgeklnblaa", sum := "9c34311680c667acc186d3da1605fb2dc6eea5e11b9f941efe5f9349f098fc7e", func := "remembrancer/remembrancerlaw1.SumAll", spec := "sumAll", unfollowed := true, recurses := true, apart := false, narrowed := true }
def SumAllUptoSaid : Prop := sumAllUptoRow.holds Try.pinned (OpenSpec.upto sumAllSpec)

/-- 'remembrancerlaw1.SumOne', WHERE WHAT IT READS IS OF BULK AT MOST 1048576: true; the input reads as it did. -/
def sumOneUptoRow : OpenClaim := { program := "ytjkfobgeklnblaa", sum := "9c34311680c667acc186d3da1605fb2dc6eea5e11b9f941efe5f9349f098fc7e", func := "remembrancer/remembrancerlaw1.SumOne", spec := "sumOne", unfollowed := true, recurses := true, apart := false, narrowed := true }
def SumOneUptoSaid : Prop := sumOneUptoRow.holds Try.pinned (OpenSpec.upto sumOneSpec)

/-- 'remembrancerlaw1.FrameLong', WHERE WHAT IT READS IS OF BULK AT MOST 1048576: true; the input reads as it did. -/
def frameLongUptoRow : OpenClaim := { program := "ytjkfobgeklnblaa", sum := "9c34311680c667acc186d3da1605fb2dc6eea5e11b9f941efe5f9349f098fc7e", func := "remembrancer/remembrancerlaw1.FrameLong", spec := "frameLong", unfollowed := true, recurses := true, apart := false, narrowed := true }
def FrameLongUptoSaid : Prop := frameLongUptoRow.holds Try.pinned (OpenSpec.upto frameLongSpec)

/-- 'remembrancerlaw1.NumOrder', WHERE WHAT IT READS IS OF BULK AT MOST 1048576: true; the input reads as it did. -/
def numOrderUptoRow : OpenClaim := { program := "ytjkfobgeklnblaa", sum := "9c34311680c667acc186d3da1605fb2dc6eea5e11b9f941efe5f9349f098fc7e", func := "remembrancer/remembrancerlaw1.NumOrder", spec := "numOrder", unfollowed := true, recurses := true, apart := false, narrowed := true }
def NumOrderUptoSaid : Prop := numOrderUptoRow.holds Try.pinned (OpenSpec.upto numOrderSpec)

/-- 'remembrancerlaw1.NumOwn', WHERE WHAT IT READS IS OF BULK AT MOST 1048576: true; the input reads as it did. -/
def numOwnUptoRow : OpenClaim := { program := "ytjkfobgeklnblaa", sum := "9c34311680c667acc186d3da1605fb2dc6eea5e11b9f941efe5f9349f098fc7e", func := "remembrancer/remembrancerlaw1.NumOwn", spec := "numOwn", unfollowed := true, recurses := true, apart := false, narrowed := true }
def NumOwnUptoSaid : Prop := numOwnUptoRow.holds Try.pinned (OpenSpec.upto numOwnSpec)

/-- 'remembrancerlaw1.SumEnd', WHERE WHAT IT READS IS OF BULK AT MOST 1048576: true; the input reads as it did. -/
def sumEndUptoRow : OpenClaim := { program := "ytjkfobgeklnblaa", sum := "9c34311680c667acc186d3da1605fb2dc6eea5e11b9f941efe5f9349f098fc7e", func := "remembrancer/remembrancerlaw1.SumEnd", spec := "sumEnd", unfollowed := true, recurses := true, apart := false, narrowed := true }
def SumEndUptoSaid : Prop := sumEndUptoRow.holds Try.pinned (OpenSpec.upto sumEndSpec)

/-- 'remembrancerlaw1.FrameOne', WHERE WHAT IT READS IS OF BULK AT MOST 1048576: true; the input reads as it did. -/
def frameOneUptoRow : OpenClaim := { program := "ytjkfobgeklnblaa", sum := "9c34311680c667acc186d3da1605fb2dc6eea5e11b9f941efe5f9349f098fc7e", func := "remembrancer/remembrancerlaw1.FrameOne", spec := "frameOne", unfollowed := true, recurses := true, apart := false, narrowed := true }
def FrameOneUptoSaid : Prop := frameOneUptoRow.holds Try.pinned (OpenSpec.upto frameOneSpec)

/-- 'remembrancerlaw1.FrameTorn', WHERE WHAT IT READS IS OF BULK AT MOST 1048576: true; the input reads as it did. -/
def frameTornUptoRow : OpenClaim := { program := "ytjkfobgeklnblaa", sum := "9c34311680c667acc186d3da1605fb2dc6eea5e11b9f941efe5f9349f098fc7e", func := "remembrancer/remembrancerlaw1.FrameTorn", spec := "frameTorn", unfollowed := true, recurses := true, apart := false, narrowed := true }
def FrameTornUptoSaid : Prop := frameTornUptoRow.holds Try.pinned (OpenSpec.upto frameTornSpec)

/-- 'remembrancerlaw1.StoreAtom', WHERE WHAT IT READS IS OF BULK AT MOST 1048576: true; the input reads as it did. -/
def storeAtomUptoRow : OpenClaim := { program := "ytjkfobgeklnblaa", sum := "9c34311680c667acc186d3da1605fb2dc6eea5e11b9f941efe5f9349f098fc7e", func := "remembrancer/remembrancerlaw1.StoreAtom", spec := "storeAtom", unfollowed := true, recurses := true, apart := false, narrowed := true }
def StoreAtomUptoSaid : Prop := storeAtomUptoRow.holds Try.pinned (OpenSpec.upto storeAtomSpec)

/-- 'remembrancerlaw1.NumEdges', WHERE WHAT IT READS IS OF BULK AT MOST 1048576: true; the input reads as it did. -/
def numEdgesUptoRow : OpenClaim := { program := "ytjkfobgeklnblaa", sum := "9c34311680c667acc186d3da1605fb2dc6eea5e11b9f941efe5f9349f098fc7e", func := "remembrancer/remembrancerlaw1.NumEdges", spec := "numEdges", unfollowed := true, recurses := true, apart := false, narrowed := true }
def NumEdgesUptoSaid : Prop := numEdgesUptoRow.holds Try.pinned (OpenSpec.upto numEdgesSpec)

end Rows
end Go.Proofs.Ytjkfobgeklnblaa
