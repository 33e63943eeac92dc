/-
  No cell of these rows narrows 'for every input' (looked for: loops, veiled, ifaces, maps, wideKeys, modest, calm, conditions, laid).
  DERIVED. THE GIVEN ROWS OF THIS SEAT. 7 by the template 'for every input the law returns true; each argument reads behind the call as it read before'; 0 by the template 'total and deterministic' (their statements: YtaifchikjnnppaaTotals.lean).
  GIVEN WITH THE SEED: the statements are not yours to turn. If you find one false, say at which input.
  Laid BY PROGRAM, IN A SANDBOX (cutbox-rows.mjs): the forced cells as the released guide's own fill.sh prints them over the translation a22358d06cc85552… (all of the seat's roots in one cut). By AI agents, Wed Nov 11 2026. No macro, syntax, notation, axiom, sorry.
-/
import Derived.Test.YtaifchikjnnppaaChecked
import GoSem.Claim
import GoSem.ClaimJoined
import GoSem.ClaimMapViews
import Derived.JoinedTies
import Derived.KernelRfl
namespace Go.Proofs.Ytaifchikjnnppaa
/- THE CELL 'sum', in the pinned program and in every row, IS THE sha256 OF THE DUMP (.gsa) THAT YtaifchikjnnppaaProg.lean LOADS. Nothing in Lean hashes anything: it is a label: what it is worth is what the hold of that sum in a sandbox is worth. -/
noncomputable def Try.pinned : Pinned := { name := "ytaifchikjnnppaa", sum := "a22358d06cc85552b6ea3a402e0bb28650f2608eece5c4724f2ce9069bfaada3", checked := Try.checked }
namespace Rows
def none {H : Type} : Left H := { results := [], args := [] }

/-- 'cardcaselaw03.FramesParse': WHATEVER THE INPUT: true; the input reads as it did. -/
def framesParseSpec : ChangeSpec := { name := "framesParse", fn := fun _ => fun
  | [d] => { results := [.lit (.bool true)], args := [d] }
  | _ => none }
def framesParseRow : OpenClaim := { program := "ytaifchikjnnppaa", sum := "a22358d06cc85552b6ea3a402e0bb28650f2608eece5c4724f2ce9069bfaada3", func := "cardcase/cardcaselaw03.FramesParse", spec := "framesParse", inPlace := ["internal/bytealg.MakeNoZero"], unfollowed := true, recurses := true, apart := false }
def FramesParseSaid : Prop := framesParseRow.holds Try.pinned (OpenSpec.ofChange framesParseSpec)

/-- ITS FALSE NEIGHBOUR: 'it returns false'. Refute it at one input. -/
def framesParseWrong : ChangeSpec := { name := "framesParse", fn := fun _ => fun
  | [d] => { results := [.lit (.bool false)], args := [d] }
  | _ => none }
def FramesParseWrongFalsely : Prop := framesParseRow.holds Try.pinned (OpenSpec.ofChange framesParseWrong)

/-- 'cardcaselaw03.FramesRow': WHATEVER THE INPUT: true; the input reads as it did. -/
def framesRowSpec : ChangeSpec := { name := "framesRow", fn := fun _ => fun
  | [d1, d2, d3] => { results := [.lit (.bool true)], args := [d1, d2, d3] }
  | _ => none }
def framesRowRow : OpenClaim := { program := "ytaifchikjnnppaa", sum := "a22358d06cc85552b6ea3a402e0bb28650f2608eece5c4724f2ce9069bfaada3", func := "cardcase/cardcaselaw03.FramesRow", spec := "framesRow", inPlace := ["internal/bytealg.MakeNoZero"], unfollowed := true, recurses := true, apart := false }
def FramesRowSaid : Prop := framesRowRow.holds Try.pinned (OpenSpec.ofChange framesRowSpec)

/-- ITS FALSE NEIGHBOUR: 'it returns false'. Refute it at one input. -/
def framesRowWrong : ChangeSpec := { name := "framesRow", fn := fun _ => fun
  | [d1, d2, d3] => { results := [.lit (.bool false)], args := [d1, d2, d3] }
  | _ => none }
def FramesRowWrongFalsely : Prop := framesRowRow.holds Try.pinned (OpenSpec.ofChange framesRowWrong)

/-- 'cardcaselaw03.FramesTorn': WHATEVER THE INPUT: true; the input reads as it did. -/
def framesTornSpec : ChangeSpec := { name := "framesTorn", fn := fun _ => fun
  | [d1, d2] => { results := [.lit (.bool true)], args := [d1, d2] }
  | _ => none }
def framesTornRow : OpenClaim := { program := "ytaifchikjnnppaa", sum := "a22358d06cc85552b6ea3a402e0bb28650f2608eece5c4724f2ce9069bfaada3", func := "cardcase/cardcaselaw03.FramesTorn", spec := "framesTorn", inPlace := ["internal/bytealg.MakeNoZero"], unfollowed := true, recurses := true, apart := false }
def FramesTornSaid : Prop := framesTornRow.holds Try.pinned (OpenSpec.ofChange framesTornSpec)

/-- ITS FALSE NEIGHBOUR: 'it returns false'. Refute it at one input. -/
def framesTornWrong : ChangeSpec := { name := "framesTorn", fn := fun _ => fun
  | [d1, d2] => { results := [.lit (.bool false)], args := [d1, d2] }
  | _ => none }
def FramesTornWrongFalsely : Prop := framesTornRow.holds Try.pinned (OpenSpec.ofChange framesTornWrong)

/-- 'cardcaselaw03.FramesLong': WHATEVER THE INPUT: true; the input reads as it did. -/
def framesLongSpec : ChangeSpec := { name := "framesLong", fn := fun _ => fun
  | [d] => { results := [.lit (.bool true)], args := [d] }
  | _ => none }
def framesLongRow : OpenClaim := { program := "ytaifchikjnnppaa", sum := "a22358d06cc85552b6ea3a402e0bb28650f2608eece5c4724f2ce9069bfaada3", func := "cardcase/cardcaselaw03.FramesLong", spec := "framesLong", inPlace := ["internal/bytealg.MakeNoZero"], unfollowed := true, recurses := true, apart := false }
def FramesLongSaid : Prop := framesLongRow.holds Try.pinned (OpenSpec.ofChange framesLongSpec)

/-- ITS FALSE NEIGHBOUR: 'it returns false'. Refute it at one input. -/
def framesLongWrong : ChangeSpec := { name := "framesLong", fn := fun _ => fun
  | [d] => { results := [.lit (.bool false)], args := [d] }
  | _ => none }
def FramesLongWrongFalsely : Prop := framesLongRow.holds Try.pinned (OpenSpec.ofChange framesLongWrong)

/-- 'cardcaselaw03.FramesLeft': WHATEVER THE INPUT: true; the input reads as it did. -/
def framesLeftSpec : ChangeSpec := { name := "framesLeft", fn := fun _ => fun
  | [d1, d2] => { results := [.lit (.bool true)], args := [d1, d2] }
  | _ => none }
def framesLeftRow : OpenClaim := { program := "ytaifchikjnnppaa", sum := "a22358d06cc85552b6ea3a402e0bb28650f2608eece5c4724f2ce9069bfaada3", func := "cardcase/cardcaselaw03.FramesLeft", spec := "framesLeft", inPlace := ["internal/bytealg.MakeNoZero"], unfollowed := true, recurses := true, apart := false }
def FramesLeftSaid : Prop := framesLeftRow.holds Try.pinned (OpenSpec.ofChange framesLeftSpec)

/-- ITS FALSE NEIGHBOUR: 'it returns false'. Refute it at one input. -/
def framesLeftWrong : ChangeSpec := { name := "framesLeft", fn := fun _ => fun
  | [d1, d2] => { results := [.lit (.bool false)], args := [d1, d2] }
  | _ => none }
def FramesLeftWrongFalsely : Prop := framesLeftRow.holds Try.pinned (OpenSpec.ofChange framesLeftWrong)

/-- 'cardcaselaw03.FramesBehind': WHATEVER THE INPUT: true; the input reads as it did. -/
def framesBehindSpec : ChangeSpec := { name := "framesBehind", fn := fun _ => fun
  | [d1, d2] => { results := [.lit (.bool true)], args := [d1, d2] }
  | _ => none }
def framesBehindRow : OpenClaim := { program := "ytaifchikjnnppaa", sum := "a22358d06cc85552b6ea3a402e0bb28650f2608eece5c4724f2ce9069bfaada3", func := "cardcase/cardcaselaw03.FramesBehind", spec := "framesBehind", inPlace := ["internal/bytealg.MakeNoZero"], unfollowed := true, recurses := true, apart := false }
def FramesBehindSaid : Prop := framesBehindRow.holds Try.pinned (OpenSpec.ofChange framesBehindSpec)

/-- ITS FALSE NEIGHBOUR: 'it returns false'. Refute it at one input. -/
def framesBehindWrong : ChangeSpec := { name := "framesBehind", fn := fun _ => fun
  | [d1, d2] => { results := [.lit (.bool false)], args := [d1, d2] }
  | _ => none }
def FramesBehindWrongFalsely : Prop := framesBehindRow.holds Try.pinned (OpenSpec.ofChange framesBehindWrong)

/-- 'cardcaselaw03.FramesOwn': WHATEVER THE INPUT: true; the input reads as it did. -/
def framesOwnSpec : ChangeSpec := { name := "framesOwn", fn := fun _ => fun
  | [d1, d2] => { results := [.lit (.bool true)], args := [d1, d2] }
  | _ => none }
def framesOwnRow : OpenClaim := { program := "ytaifchikjnnppaa", sum := "a22358d06cc85552b6ea3a402e0bb28650f2608eece5c4724f2ce9069bfaada3", func := "cardcase/cardcaselaw03.FramesOwn", spec := "framesOwn", inPlace := ["internal/bytealg.MakeNoZero"], unfollowed := true, recurses := true, apart := false }
def FramesOwnSaid : Prop := framesOwnRow.holds Try.pinned (OpenSpec.ofChange framesOwnSpec)

/-- ITS FALSE NEIGHBOUR: 'it returns false'. Refute it at one input. -/
def framesOwnWrong : ChangeSpec := { name := "framesOwn", fn := fun _ => fun
  | [d1, d2] => { results := [.lit (.bool false)], args := [d1, d2] }
  | _ => none }
def FramesOwnWrongFalsely : Prop := framesOwnRow.holds Try.pinned (OpenSpec.ofChange framesOwnWrong)

/- THE SECOND FORM. 'bulk': how many values and letters a reading holds, each counted each time it is reached (what is shared counts as often as it is met; a slice's spare places count too). A statement '..UptoSaid' is the law's where the arguments, and the package variables that the reading takes, are together of bulk at most 1048576: NARROWER than '..Said'. Prove '..Said' where nothing that the law and all that it calls make is longer than what came in: it says more and counts as full. Else prove '..UptoSaid'. A law counts once. -/
mutual
def uptoBulk {H : Type} : DataW H → Nat
  | .lit (.string bytes) => bytes.length + 1
  | .lit _ => 1
  | .nil => 1
  | .ptr d => uptoBulk d + 1
  | .slice elems spare => uptoBulkAll elems + uptoBulkAll spare + 1
  | .agg parts => uptoBulkAll parts + 1
  | .iface _ d => uptoBulk d + 1
  | .map entries => uptoBulkEntries entries + 1
  | .held _ => 1
def uptoBulkAll {H : Type} : List (DataW H) → Nat
  | [] => 0
  | d :: r => uptoBulk d + uptoBulkAll r
def uptoBulkEntries {H : Type} : List (Lit × DataW H) → Nat
  | [] => 0
  | x :: r => uptoBulkEntry x + uptoBulkEntries r
def uptoBulkEntry {H : Type} : Lit × DataW H → Nat
  | (.string bytes, d) => bytes.length + uptoBulk d + 1
  | (_, d) => uptoBulk d + 1
 end
def uptoSmall : (H : Type) → List (DataW H) → Bool := fun _ ds => decide (uptoBulkAll ds ≤ 1048576)
def OpenSpec.upto (s : _root_.Go.ChangeSpec) : _root_.Go.OpenSpec := { _root_.Go.OpenSpec.ofChange s with cond := some uptoSmall }

/-- 'cardcaselaw03.FramesParse', WHERE WHAT IT READS IS OF BULK AT MOST 1048576: true; the input reads as it did. -/
def framesParseUptoRow : OpenClaim := { program := "ytaifchikjnnppaa", sum := "a22358d06cc85552b6ea3a402e0bb28650f2608eece5c4724f2ce9069bfaada3", func := "cardcase/cardcaselaw03.FramesParse", spec := "framesParse", inPlace := ["internal/bytealg.MakeNoZero"], unfollowed := true, recurses := true, apart := false, narrowed := true }
def FramesParseUptoSaid : Prop := framesParseUptoRow.holds Try.pinned (OpenSpec.upto framesParseSpec)

/-- 'cardcaselaw03.FramesRow', WHERE WHAT IT READS IS OF BULK AT MOST 1048576: true; the input reads as it did. -/
def framesRowUptoRow : OpenClaim := { program := "ytaifchikjnnppaa", sum := "a22358d06cc85552b6ea3a402e0bb28650f2608eece5c4724f2ce9069bfaada3", func := "cardcase/cardcaselaw03.FramesRow", spec := "framesRow", inPlace := ["internal/bytealg.MakeNoZero"], unfollowed := true, recurses := true, apart := false, narrowed := true }
def FramesRowUptoSaid : Prop := framesRowUptoRow.holds Try.pinned (OpenSpec.upto framesRowSpec)

/-- 'cardcaselaw03.FramesTorn', WHERE WHAT IT READS IS OF BULK AT MOST 1048576: true; the input reads as it did. -/
def framesTornUptoRow : OpenClaim := { program := "ytaifchikjnnppaa", sum := "a22358d06cc85552b6ea3a402e0bb28650f2608eece5c4724f2ce9069bfaada3", func := "cardcase/cardcaselaw03.FramesTorn", spec := "framesTorn", inPlace := ["internal/bytealg.MakeNoZero"], unfollowed := true, recurses := true, apart := false, narrowed := true }
def FramesTornUptoSaid : Prop := framesTornUptoRow.holds Try.pinned (OpenSpec.upto framesTornSpec)

/-- 'cardcaselaw03.FramesLong', WHERE WHAT IT READS IS OF BULK AT MOST 1048576: true; the input reads as it did. -/
def framesLongUptoRow : OpenClaim := { program := "ytaifchikjnnppaa", sum := "a22358d06cc85552b6ea3a402e0bb28650f2608eece5c4724f2ce9069bfaada3", func := "cardcase/cardcaselaw03.FramesLong", spec := "framesLong", inPlace := ["internal/bytealg.MakeNoZero"], unfollowed := true, recurses := true, apart := false, narrowed := true }
def FramesLongUptoSaid : Prop := framesLongUptoRow.holds Try.pinned (OpenSpec.upto framesLongSpec)

/-- 'cardcaselaw03.FramesLeft', WHERE WHAT IT READS IS OF BULK AT MOST 1048576: true; the input reads as it did. -/
def framesLeftUptoRow : OpenClaim := { program := "ytaifchikjnnppaa", sum := "a22358d06cc85552b6ea3a402e0bb28650f2608eece5c4724f2ce9069bfaada3", func := "cardcase/cardcaselaw03.FramesLeft", spec := "framesLeft", inPlace := ["internal/bytealg.MakeNoZero"], unfollowed := true, recurses := true, apart := false, narrowed := true }
def FramesLeftUptoSaid : Prop := framesLeftUptoRow.holds Try.pinned (OpenSpec.upto framesLeftSpec)

/-- 'cardcaselaw03.FramesBehind', WHERE WHAT IT READS IS OF BULK AT MOST 1048576: true; the input reads as it did. -/
def framesBehindUptoRow : OpenClaim := { program := "ytaifchikjnnppaa", sum := "a22358d06cc85552b6ea3a402e0bb28650f2608eece5c4724f2ce9069bfaada3", func := "cardcase/cardcaselaw03.FramesBehind", spec := "framesBehind", inPlace := ["internal/bytealg.MakeNoZero"], unfollowed := true, recurses := true, apart := false, narrowed := true }
def FramesBehindUptoSaid : Prop := framesBehindUptoRow.holds Try.pinned (OpenSpec.upto framesBehindSpec)

/-- 'cardcaselaw03.FramesOwn', WHERE WHAT IT READS IS OF BULK AT MOST 1048576: true; the input reads as it did. -/
def framesOwnUptoRow : OpenClaim := { program := "ytaifchikjnnppaa", sum := "a22358d06cc85552b6ea3a402e0bb28650f2608eece5c4724f2ce9069bfaada3", func := "cardcase/cardcaselaw03.FramesOwn", spec := "framesOwn", inPlace := ["internal/bytealg.MakeNoZero"], unfollowed := true, recurses := true, apart := false, narrowed := true }
def FramesOwnUptoSaid : Prop := framesOwnUptoRow.holds Try.pinned (OpenSpec.upto framesOwnSpec)

end Rows
end Go.Proofs.Ytaifchikjnnppaa
