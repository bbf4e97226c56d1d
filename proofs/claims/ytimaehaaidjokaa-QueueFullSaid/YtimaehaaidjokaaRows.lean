/-
  No cell of these rows narrows 'for every input' (looked for: loops, veiled, ifaces, maps, wideKeys, modest, calm, conditions, laid).
  DERIVED. THE GIVEN ROWS OF THIS SEAT. 6 by the template 'for every input the law returns true; each argument reads behind the call as it read before'; 0 by the template 'total and deterministic' (their statements: YtimaehaaidjokaaTotals.lean).
  GIVEN WITH THE SEED: the statements are not yours to turn. If you find one false, say at which input.
  Laid BY PROGRAM, IN A SANDBOX (cutbox-rows.mjs): the forced cells as the released guide's own fill.sh prints them over the translation e41410f85e6b69a6… (all of the seat's roots in one cut). By AI agents, Wed Nov 11 2026. No macro, syntax, notation, axiom, sorry.
-/
import Derived.Test.YtimaehaaidjokaaChecked
import GoSem.Claim
import GoSem.ClaimJoined
import GoSem.ClaimMapViews
import Derived.JoinedTies
import Derived.KernelRfl
namespace Go.Proofs.Ytimaehaaidjokaa
/- THE CELL 'sum', in the pinned program and in every row, IS THE sha256 OF THE DUMP (.gsa) THAT YtimaehaaidjokaaProg.lean LOADS. Nothing in Lean hashes anything: it is a label: what it is worth is what the hold of that sum in a sandbox is worth. -/
noncomputable def Try.pinned : Pinned := { name := "ytimaehaaidjokaa", sum := "e41410f85e6b69a629351ec98c04665a01ee39ef5f96f91f79b7e18f4e70eb70", checked := Try.checked }
namespace Rows
def none {H : Type} : Left H := { results := [], args := [] }

/-- 'demesnelaw14.QueueTells': WHATEVER THE INPUT: true; the input reads as it did. -/
def queueTellsSpec : ChangeSpec := { name := "queueTells", fn := fun _ => fun
  | [d1, d2, d3, d4] => { results := [.lit (.bool true)], args := [d1, d2, d3, d4] }
  | _ => none }
def queueTellsRow : OpenClaim := { program := "ytimaehaaidjokaa", sum := "e41410f85e6b69a629351ec98c04665a01ee39ef5f96f91f79b7e18f4e70eb70", func := "demesne/demesnelaw14.QueueTells", spec := "queueTells", inPlace := ["slices.overlaps[demesne/queue.Entry]"], unfollowed := true, recurses := true, apart := false }
def QueueTellsSaid : Prop := queueTellsRow.holds Try.pinned (OpenSpec.ofChange queueTellsSpec)

/-- ITS FALSE NEIGHBOUR: 'it returns false'. Refute it at one input. -/
def queueTellsWrong : ChangeSpec := { name := "queueTells", fn := fun _ => fun
  | [d1, d2, d3, d4] => { results := [.lit (.bool false)], args := [d1, d2, d3, d4] }
  | _ => none }
def QueueTellsWrongFalsely : Prop := queueTellsRow.holds Try.pinned (OpenSpec.ofChange queueTellsWrong)

/-- 'demesnelaw14.QueueRight': WHATEVER THE INPUT: true; the input reads as it did. -/
def queueRightSpec : ChangeSpec := { name := "queueRight", fn := fun _ => fun
  | [d1, d2] => { results := [.lit (.bool true)], args := [d1, d2] }
  | _ => none }
def queueRightRow : OpenClaim := { program := "ytimaehaaidjokaa", sum := "e41410f85e6b69a629351ec98c04665a01ee39ef5f96f91f79b7e18f4e70eb70", func := "demesne/demesnelaw14.QueueRight", spec := "queueRight", inPlace := ["slices.overlaps[demesne/queue.Entry]"], unfollowed := true, recurses := true, apart := false }
def QueueRightSaid : Prop := queueRightRow.holds Try.pinned (OpenSpec.ofChange queueRightSpec)

/-- ITS FALSE NEIGHBOUR: 'it returns false'. Refute it at one input. -/
def queueRightWrong : ChangeSpec := { name := "queueRight", fn := fun _ => fun
  | [d1, d2] => { results := [.lit (.bool false)], args := [d1, d2] }
  | _ => none }
def QueueRightWrongFalsely : Prop := queueRightRow.holds Try.pinned (OpenSpec.ofChange queueRightWrong)

/-- 'demesnelaw14.QueueOrder': WHATEVER THE INPUT: true; the input reads as it did. -/
def queueOrderSpec : ChangeSpec := { name := "queueOrder", fn := fun _ => fun
  | [d1, d2, d3, d4] => { results := [.lit (.bool true)], args := [d1, d2, d3, d4] }
  | _ => none }
def queueOrderRow : OpenClaim := { program := "ytimaehaaidjokaa", sum := "e41410f85e6b69a629351ec98c04665a01ee39ef5f96f91f79b7e18f4e70eb70", func := "demesne/demesnelaw14.QueueOrder", spec := "queueOrder", inPlace := ["slices.overlaps[demesne/queue.Entry]"], unfollowed := true, recurses := true, apart := false }
def QueueOrderSaid : Prop := queueOrderRow.holds Try.pinned (OpenSpec.ofChange queueOrderSpec)

/-- ITS FALSE NEIGHBOUR: 'it returns false'. Refute it at one input. -/
def queueOrderWrong : ChangeSpec := { name := "queueOrder", fn := fun _ => fun
  | [d1, d2, d3, d4] => { results := [.lit (.bool false)], args := [d1, d2, d3, d4] }
  | _ => none }
def QueueOrderWrongFalsely : Prop := queueOrderRow.holds Try.pinned (OpenSpec.ofChange queueOrderWrong)

/-- 'demesnelaw14.QueueComes': WHATEVER THE INPUT: true; the input reads as it did. -/
def queueComesSpec : ChangeSpec := { name := "queueComes", fn := fun _ => fun
  | [d1, d2] => { results := [.lit (.bool true)], args := [d1, d2] }
  | _ => none }
def queueComesRow : OpenClaim := { program := "ytimaehaaidjokaa", sum := "e41410f85e6b69a629351ec98c04665a01ee39ef5f96f91f79b7e18f4e70eb70", func := "demesne/demesnelaw14.QueueComes", spec := "queueComes", inPlace := ["slices.overlaps[demesne/queue.Entry]"], unfollowed := true, recurses := true, apart := false }
def QueueComesSaid : Prop := queueComesRow.holds Try.pinned (OpenSpec.ofChange queueComesSpec)

/-- ITS FALSE NEIGHBOUR: 'it returns false'. Refute it at one input. -/
def queueComesWrong : ChangeSpec := { name := "queueComes", fn := fun _ => fun
  | [d1, d2] => { results := [.lit (.bool false)], args := [d1, d2] }
  | _ => none }
def QueueComesWrongFalsely : Prop := queueComesRow.holds Try.pinned (OpenSpec.ofChange queueComesWrong)

/-- 'demesnelaw14.QueuePlaces': WHATEVER THE INPUT: true; the input reads as it did. -/
def queuePlacesSpec : ChangeSpec := { name := "queuePlaces", fn := fun _ => fun
  | [d1, d2] => { results := [.lit (.bool true)], args := [d1, d2] }
  | _ => none }
def queuePlacesRow : OpenClaim := { program := "ytimaehaaidjokaa", sum := "e41410f85e6b69a629351ec98c04665a01ee39ef5f96f91f79b7e18f4e70eb70", func := "demesne/demesnelaw14.QueuePlaces", spec := "queuePlaces", inPlace := ["slices.overlaps[demesne/queue.Entry]"], unfollowed := true, recurses := true, apart := false }
def QueuePlacesSaid : Prop := queuePlacesRow.holds Try.pinned (OpenSpec.ofChange queuePlacesSpec)

/-- ITS FALSE NEIGHBOUR: 'it returns false'. Refute it at one input. -/
def queuePlacesWrong : ChangeSpec := { name := "queuePlaces", fn := fun _ => fun
  | [d1, d2] => { results := [.lit (.bool false)], args := [d1, d2] }
  | _ => none }
def QueuePlacesWrongFalsely : Prop := queuePlacesRow.holds Try.pinned (OpenSpec.ofChange queuePlacesWrong)

/-- 'demesnelaw14.QueueFull': WHATEVER THE INPUT: true; the input reads as it did. -/
def queueFullSpec : ChangeSpec := { name := "queueFull", fn := fun _ => fun
  | [d1, d2] => { results := [.lit (.bool true)], args := [d1, d2] }
  | _ => none }
def queueFullRow : OpenClaim := { program := "ytimaehaaidjokaa", sum := "e41410f85e6b69a629351ec98c04665a01ee39ef5f96f91f79b7e18f4e70eb70", func := "demesne/demesnelaw14.QueueFull", spec := "queueFull", inPlace := ["slices.overlaps[demesne/queue.Entry]"], unfollowed := true, recurses := true, apart := false }
def QueueFullSaid : Prop := queueFullRow.holds Try.pinned (OpenSpec.ofChange queueFullSpec)

/-- ITS FALSE NEIGHBOUR: 'it returns false'. Refute it at one input. -/
def queueFullWrong : ChangeSpec := { name := "queueFull", fn := fun _ => fun
  | [d1, d2] => { results := [.lit (.bool false)], args := [d1, d2] }
  | _ => none }
def QueueFullWrongFalsely : Prop := queueFullRow.holds Try.pinned (OpenSpec.ofChange queueFullWrong)

/- THE SECOND FORM. 'bulk': how many values and letters a reading holds, each counted each time it is reached (what is shared counts as often as it is met; a slice's spare places count too). A statement '..UptoSaid' is the law's where the arguments, and the package variables that the reading takes, are together of bulk at most 1048576: NARROWER than '..Said'. Prove '..Said' where nothing that the law and all that it calls make is longer than what came in: it says more and counts as full. Else prove '..UptoSaid'. A law counts once. -/
mutual
def uptoBulk {H : Type} : DataW H → Nat
  | .lit (.string bytes) => bytes.length + 1
  | .lit _ => 1
  | .nil => 1
  | .ptr d => uptoBulk d + 1
  | .slice elems spare => uptoBulkAll elems + uptoBulkAll spare + 1
  | .agg parts => uptoBulkAll parts + 1
  | .iface _ d => uptoBulk d + 1
  | .map entries => uptoBulkEntries entries + 1
  | .held _ => 1
def uptoBulkAll {H : Type} : List (DataW H) → Nat
  | [] => 0
  | d :: r => uptoBulk d + uptoBulkAll r
def uptoBulkEntries {H : Type} : List (Lit × DataW H) → Nat
  | [] => 0
  | x :: r => uptoBulkEntry x + uptoBulkEntries r
def uptoBulkEntry {H : Type} : Lit × DataW H → Nat
  | (.string bytes, d) => bytes.length + uptoBulk d + 1
  | (_, d) => uptoBulk d + 1
 end
def uptoSmall : (H : Type) → List (DataW H) → Bool := fun _ ds => decide (uptoBulkAll ds ≤ 1048576)
def OpenSpec.upto (s : _root_.Go.ChangeSpec) : _root_.Go.OpenSpec := { _root_.Go.OpenSpec.ofChange s with cond := some uptoSmall }

/-- 'demesnelaw14.QueueTells', WHERE WHAT IT READS IS OF BULK AT MOST 1048576: true; the input reads as it did. -/
def queueTellsUptoRow : OpenClaim := { program := "ytimaehaaidjokaa", sum := "e41410f85e6b69a629351ec98c04665a01ee39ef5f96f91f79b7e18f4e70eb70", func := "demesne/demesnelaw14.QueueTells", spec := "queueTells", inPlace := ["slices.overlaps[demesne/queue.Entry]"], unfollowed := true, recurses := true, apart := false, narrowed := true }
def QueueTellsUptoSaid : Prop := queueTellsUptoRow.holds Try.pinned (OpenSpec.upto queueTellsSpec)

/-- 'demesnelaw14.QueueRight', WHERE WHAT IT READS IS OF BULK AT MOST 1048576: true; the input reads as it did. -/
def queueRightUptoRow : OpenClaim := { program := "ytimaehaaidjokaa", sum := "e41410f85e6b69a629351ec98c04665a01ee39ef5f96f91f79b7e18f4e70eb70", func := "demesne/demesnelaw14.QueueRight", spec := "queueRight", inPlace := ["slices.overlaps[demesne/queue.Entry]"], unfollowed := true, recurses := true, apart := false, narrowed := true }
def QueueRightUptoSaid : Prop := queueRightUptoRow.holds Try.pinned (OpenSpec.upto queueRightSpec)

/-- 'demesnelaw14.QueueOrder', WHERE WHAT IT READS IS OF BULK AT MOST 1048576: true; the input reads as it did. -/
def queueOrderUptoRow : OpenClaim := { program := "ytimaehaaidjokaa", sum := "e41410f85e6b69a629351ec98c04665a01ee39ef5f96f91f79b7e18f4e70eb70", func := "demesne/demesnelaw14.QueueOrder", spec := "queueOrder", inPlace := ["slices.overlaps[demesne/queue.Entry]"], unfollowed := true, recurses := true, apart := false, narrowed := true }
def QueueOrderUptoSaid : Prop := queueOrderUptoRow.holds Try.pinned (OpenSpec.upto queueOrderSpec)

/-- 'demesnelaw14.QueueComes', WHERE WHAT IT READS IS OF BULK AT MOST 1048576: true; the input reads as it did. -/
def queueComesUptoRow : OpenClaim := { program := "ytimaehaaidjokaa", sum := "e41410f85e6b69a629351ec98c04665a01ee39ef5f96f91f79b7e18f4e70eb70", func := "demesne/demesnelaw14.QueueComes", spec := "queueComes", inPlace := ["slices.overlaps[demesne/queue.Entry]"], unfollowed := true, recurses := true, apart := false, narrowed := true }
def QueueComesUptoSaid : Prop := queueComesUptoRow.holds Try.pinned (OpenSpec.upto queueComesSpec)

/-- 'demesnelaw14.QueuePlaces', WHERE WHAT IT READS IS OF BULK AT MOST 1048576: true; the input reads as it did. -/
def queuePlacesUptoRow : OpenClaim := { program := "ytimaehaaidjokaa", sum := "e41410f85e6b69a629351ec98c04665a01ee39ef5f96f91f79b7e18f4e70eb70", func := "demesne/demesnelaw14.QueuePlaces", spec := "queuePlaces", inPlace := ["slices.overlaps[demesne/queue.Entry]"], unfollowed := true, recurses := true, apart := false, narrowed := true }
def QueuePlacesUptoSaid : Prop := queuePlacesUptoRow.holds Try.pinned (OpenSpec.upto queuePlacesSpec)

/-- 'demesnelaw14.QueueFull', WHERE WHAT IT READS IS OF BULK AT MOST 1048576: true; the input reads as it did. -/
def queueFullUptoRow : OpenClaim := { program := "ytimaehaaidjokaa", sum := "e41410f85e6b69a629351ec98c04665a01ee39ef5f96f91f79b7e18f4e70eb70", func := "demesne/demesnelaw14.QueueFull", spec := "queueFull", inPlace := ["slices.overlaps[demesne/queue.Entry]"], unfollowed := true, recurses := true, apart := false, narrowed := true }
def QueueFullUptoSaid : Prop := queueFullUptoRow.holds Try.pinned (OpenSpec.upto queueFullSpec)

end Rows
end Go.Proofs.Ytimaehaaidjokaa
