/-
  NARROWER THAN 'FOR EVERY INPUT', by the rows' own cells (each row's printed sentence says how): MacTells: laid · MacChecks: laid · MacNarrows: laid · MacBack: laid · MacOnce: laid · MacShared: laid.
  DERIVED. THE GIVEN ROWS OF THIS SEAT. 6 by the template 'for every input the law returns true; each argument reads behind the call as it read before'; 0 by the template 'total and deterministic' (their statements: YthopegokjbibmaaDoorTotals.lean).
  GIVEN WITH THE SEED: the statements are not yours to turn. If you find one false, say at which input.
  Laid BY PROGRAM, IN A SANDBOX (cutbox-rows.mjs): the forced cells as the released guide's own fill.sh prints them over the translation f1cb9a30dd7cbd22… (all of the seat's roots in one cut). By AI agents, Wed Nov 11 2026. No macro, syntax, notation, axiom, sorry.
-/
import Derived.Test.YthopegokjbibmaaDoorChecked
import GoSem.Claim
import GoSem.ClaimJoined
import GoSem.ClaimMapViews
import Derived.JoinedTies
import Derived.KernelRfl
namespace Go.Proofs.YthopegokjbibmaaDoor
/- THE CELL 'sum', in the pinned program and in every row, IS THE sha256 OF THE DUMP (.gsa) THAT YthopegokjbibmaaDoorProg.lean LOADS. Nothing in Lean hashes anything: it is a label: what it is worth is what the hold of that sum in a sandbox is worth. -/
noncomputable def Tryd.pinned : Pinned := { name := "ythopegokjbibmaadoor", sum := "f1cb9a30dd7cbd226ff98ae513908ae93719318ab50cd5f53a9a39053dd985eb", checked := Tryd.checked }
namespace Rows
def none {H : Type} : Left H := { results := [], args := [] }

/- WHAT THE LISTED PACKAGE-LEVEL VARIABLES READ AS WHEN THE CALL BEGINS. Each datum BY PROGRAM (the guide's laid-datum.mjs) off the statement by which the dump's own 'gosem.cut.vars' lays the variable. In a bare row this is a premise. The card (YthopegokjbibmaaDoorCards.lean) ties it to the program's text. -/
def laid_demesne_sha_squareRoots {H : Type} : DataW H := .agg [.lit (.int .u32 1779033703), .lit (.int .u32 3144134277), .lit (.int .u32 1013904242), .lit (.int .u32 2773480762), .lit (.int .u32 1359893119), .lit (.int .u32 2600822924), .lit (.int .u32 528734635), .lit (.int .u32 1541459225)]
def laid_demesne_sha_cubeRoots {H : Type} : DataW H := .agg [.lit (.int .u32 1116352408), .lit (.int .u32 1899447441), .lit (.int .u32 3049323471), .lit (.int .u32 3921009573), .lit (.int .u32 961987163), .lit (.int .u32 1508970993), .lit (.int .u32 2453635748), .lit (.int .u32 2870763221), .lit (.int .u32 3624381080), .lit (.int .u32 310598401), .lit (.int .u32 607225278), .lit (.int .u32 1426881987), .lit (.int .u32 1925078388), .lit (.int .u32 2162078206), .lit (.int .u32 2614888103), .lit (.int .u32 3248222580), .lit (.int .u32 3835390401), .lit (.int .u32 4022224774), .lit (.int .u32 264347078), .lit (.int .u32 604807628), .lit (.int .u32 770255983), .lit (.int .u32 1249150122), .lit (.int .u32 1555081692), .lit (.int .u32 1996064986), .lit (.int .u32 2554220882), .lit (.int .u32 2821834349), .lit (.int .u32 2952996808), .lit (.int .u32 3210313671), .lit (.int .u32 3336571891), .lit (.int .u32 3584528711), .lit (.int .u32 113926993), .lit (.int .u32 338241895), .lit (.int .u32 666307205), .lit (.int .u32 773529912), .lit (.int .u32 1294757372), .lit (.int .u32 1396182291), .lit (.int .u32 1695183700), .lit (.int .u32 1986661051), .lit (.int .u32 2177026350), .lit (.int .u32 2456956037), .lit (.int .u32 2730485921), .lit (.int .u32 2820302411), .lit (.int .u32 3259730800), .lit (.int .u32 3345764771), .lit (.int .u32 3516065817), .lit (.int .u32 3600352804), .lit (.int .u32 4094571909), .lit (.int .u32 275423344), .lit (.int .u32 430227734), .lit (.int .u32 506948616), .lit (.int .u32 659060556), .lit (.int .u32 883997877), .lit (.int .u32 958139571), .lit (.int .u32 1322822218), .lit (.int .u32 1537002063), .lit (.int .u32 1747873779), .lit (.int .u32 1955562222), .lit (.int .u32 2024104815), .lit (.int .u32 2227730452), .lit (.int .u32 2361852424), .lit (.int .u32 2428436474), .lit (.int .u32 2756734187), .lit (.int .u32 3204031479), .lit (.int .u32 3329325298)]

/-- 'demesnelaw07.MacTells': WHATEVER THE INPUT: true; the input reads as it did. -/
def macTellsSpec : ChangeSpec := { name := "macTells", fn := fun _ => fun
  | [d1, d2, d3, d4, d5, d6, d7] => { results := [.lit (.bool true)], args := [d1, d2, d3, d4, d5, d6, d7] }
  | _ => none }
def macTellsRow : OpenClaim := { program := "ythopegokjbibmaadoor", sum := "f1cb9a30dd7cbd226ff98ae513908ae93719318ab50cd5f53a9a39053dd985eb", func := "demesne/demesnelaw07.MacTells", spec := "macTells", unfollowed := true, recurses := true, named := ["demesne/sha.squareRoots", "demesne/sha.cubeRoots"], apart := false, laid := [("demesne/sha.squareRoots", laid_demesne_sha_squareRoots), ("demesne/sha.cubeRoots", laid_demesne_sha_cubeRoots)] }
def MacTellsSaid : Prop := macTellsRow.holds Tryd.pinned (OpenSpec.ofChange macTellsSpec)

/-- ITS FALSE NEIGHBOUR: 'it returns false'. Refute it at one input. -/
def macTellsWrong : ChangeSpec := { name := "macTells", fn := fun _ => fun
  | [d1, d2, d3, d4, d5, d6, d7] => { results := [.lit (.bool false)], args := [d1, d2, d3, d4, d5, d6, d7] }
  | _ => none }
def MacTellsWrongFalsely : Prop := macTellsRow.holds Tryd.pinned (OpenSpec.ofChange macTellsWrong)

/-- 'demesnelaw07.MacChecks': WHATEVER THE INPUT: true; the input reads as it did. -/
def macChecksSpec : ChangeSpec := { name := "macChecks", fn := fun _ => fun
  | [d1, d2, d3, d4] => { results := [.lit (.bool true)], args := [d1, d2, d3, d4] }
  | _ => none }
def macChecksRow : OpenClaim := { program := "ythopegokjbibmaadoor", sum := "f1cb9a30dd7cbd226ff98ae513908ae93719318ab50cd5f53a9a39053dd985eb", func := "demesne/demesnelaw07.MacChecks", spec := "macChecks", unfollowed := true, recurses := true, named := ["demesne/sha.squareRoots", "demesne/sha.cubeRoots"], apart := false, laid := [("demesne/sha.squareRoots", laid_demesne_sha_squareRoots), ("demesne/sha.cubeRoots", laid_demesne_sha_cubeRoots)] }
def MacChecksSaid : Prop := macChecksRow.holds Tryd.pinned (OpenSpec.ofChange macChecksSpec)

/-- ITS FALSE NEIGHBOUR: 'it returns false'. Refute it at one input. -/
def macChecksWrong : ChangeSpec := { name := "macChecks", fn := fun _ => fun
  | [d1, d2, d3, d4] => { results := [.lit (.bool false)], args := [d1, d2, d3, d4] }
  | _ => none }
def MacChecksWrongFalsely : Prop := macChecksRow.holds Tryd.pinned (OpenSpec.ofChange macChecksWrong)

/-- 'demesnelaw07.MacNarrows': WHATEVER THE INPUT: true; the input reads as it did. -/
def macNarrowsSpec : ChangeSpec := { name := "macNarrows", fn := fun _ => fun
  | [d1, d2, d3, d4] => { results := [.lit (.bool true)], args := [d1, d2, d3, d4] }
  | _ => none }
def macNarrowsRow : OpenClaim := { program := "ythopegokjbibmaadoor", sum := "f1cb9a30dd7cbd226ff98ae513908ae93719318ab50cd5f53a9a39053dd985eb", func := "demesne/demesnelaw07.MacNarrows", spec := "macNarrows", unfollowed := true, recurses := true, named := ["demesne/sha.squareRoots", "demesne/sha.cubeRoots"], apart := false, laid := [("demesne/sha.squareRoots", laid_demesne_sha_squareRoots), ("demesne/sha.cubeRoots", laid_demesne_sha_cubeRoots)] }
def MacNarrowsSaid : Prop := macNarrowsRow.holds Tryd.pinned (OpenSpec.ofChange macNarrowsSpec)

/-- ITS FALSE NEIGHBOUR: 'it returns false'. Refute it at one input. -/
def macNarrowsWrong : ChangeSpec := { name := "macNarrows", fn := fun _ => fun
  | [d1, d2, d3, d4] => { results := [.lit (.bool false)], args := [d1, d2, d3, d4] }
  | _ => none }
def MacNarrowsWrongFalsely : Prop := macNarrowsRow.holds Tryd.pinned (OpenSpec.ofChange macNarrowsWrong)

/-- 'demesnelaw07.MacBack': WHATEVER THE INPUT: true; the input reads as it did. -/
def macBackSpec : ChangeSpec := { name := "macBack", fn := fun _ => fun
  | [d1, d2, d3, d4, d5] => { results := [.lit (.bool true)], args := [d1, d2, d3, d4, d5] }
  | _ => none }
def macBackRow : OpenClaim := { program := "ythopegokjbibmaadoor", sum := "f1cb9a30dd7cbd226ff98ae513908ae93719318ab50cd5f53a9a39053dd985eb", func := "demesne/demesnelaw07.MacBack", spec := "macBack", unfollowed := true, recurses := true, named := ["demesne/sha.squareRoots", "demesne/sha.cubeRoots"], apart := false, laid := [("demesne/sha.squareRoots", laid_demesne_sha_squareRoots), ("demesne/sha.cubeRoots", laid_demesne_sha_cubeRoots)] }
def MacBackSaid : Prop := macBackRow.holds Tryd.pinned (OpenSpec.ofChange macBackSpec)

/-- ITS FALSE NEIGHBOUR: 'it returns false'. Refute it at one input. -/
def macBackWrong : ChangeSpec := { name := "macBack", fn := fun _ => fun
  | [d1, d2, d3, d4, d5] => { results := [.lit (.bool false)], args := [d1, d2, d3, d4, d5] }
  | _ => none }
def MacBackWrongFalsely : Prop := macBackRow.holds Tryd.pinned (OpenSpec.ofChange macBackWrong)

/-- 'demesnelaw07.MacOnce': WHATEVER THE INPUT: true; the input reads as it did. -/
def macOnceSpec : ChangeSpec := { name := "macOnce", fn := fun _ => fun
  | [d1, d2, d3] => { results := [.lit (.bool true)], args := [d1, d2, d3] }
  | _ => none }
def macOnceRow : OpenClaim := { program := "ythopegokjbibmaadoor", sum := "f1cb9a30dd7cbd226ff98ae513908ae93719318ab50cd5f53a9a39053dd985eb", func := "demesne/demesnelaw07.MacOnce", spec := "macOnce", unfollowed := true, recurses := true, named := ["demesne/sha.squareRoots", "demesne/sha.cubeRoots"], apart := false, laid := [("demesne/sha.squareRoots", laid_demesne_sha_squareRoots), ("demesne/sha.cubeRoots", laid_demesne_sha_cubeRoots)] }
def MacOnceSaid : Prop := macOnceRow.holds Tryd.pinned (OpenSpec.ofChange macOnceSpec)

/-- ITS FALSE NEIGHBOUR: 'it returns false'. Refute it at one input. -/
def macOnceWrong : ChangeSpec := { name := "macOnce", fn := fun _ => fun
  | [d1, d2, d3] => { results := [.lit (.bool false)], args := [d1, d2, d3] }
  | _ => none }
def MacOnceWrongFalsely : Prop := macOnceRow.holds Tryd.pinned (OpenSpec.ofChange macOnceWrong)

/-- 'demesnelaw07.MacShared': WHATEVER THE INPUT: true; the input reads as it did. -/
def macSharedSpec : ChangeSpec := { name := "macShared", fn := fun _ => fun
  | [d1, d2, d3, d4] => { results := [.lit (.bool true)], args := [d1, d2, d3, d4] }
  | _ => none }
def macSharedRow : OpenClaim := { program := "ythopegokjbibmaadoor", sum := "f1cb9a30dd7cbd226ff98ae513908ae93719318ab50cd5f53a9a39053dd985eb", func := "demesne/demesnelaw07.MacShared", spec := "macShared", unfollowed := true, recurses := true, named := ["demesne/sha.squareRoots", "demesne/sha.cubeRoots"], apart := false, laid := [("demesne/sha.squareRoots", laid_demesne_sha_squareRoots), ("demesne/sha.cubeRoots", laid_demesne_sha_cubeRoots)] }
def MacSharedSaid : Prop := macSharedRow.holds Tryd.pinned (OpenSpec.ofChange macSharedSpec)

/-- ITS FALSE NEIGHBOUR: 'it returns false'. Refute it at one input. -/
def macSharedWrong : ChangeSpec := { name := "macShared", fn := fun _ => fun
  | [d1, d2, d3, d4] => { results := [.lit (.bool false)], args := [d1, d2, d3, d4] }
  | _ => none }
def MacSharedWrongFalsely : Prop := macSharedRow.holds Tryd.pinned (OpenSpec.ofChange macSharedWrong)

/- THE SECOND FORM. 'bulk': how many values and letters a reading holds, each counted each time it is reached (what is shared counts as often as it is met; a slice's spare places count too). A statement '..UptoSaid' is the law's where the arguments, and the package variables that the reading takes, are together of bulk at most 1048576: NARROWER than '..Said'. Prove '..Said' where nothing that the law and all that it calls make is longer than what came in: it says more and counts as full. Else prove '..UptoSaid'. A law counts once. -/
mutual
def uptoBulk {H : Type} : DataW H → Nat
  | .lit (.string bytes) => bytes.length + 1
  | .lit _ => 1
  | .nil => 1
  | .ptr d => uptoBulk d + 1
  | .slice elems spare => uptoBulkAll elems + uptoBulkAll spare + 1
  | .agg parts => uptoBulkAll parts + 1
  | .iface _ d => uptoBulk d + 1
  | .map entries => uptoBulkEntries entries + 1
  | .held _ => 1
def uptoBulkAll {H : Type} : List (DataW H) → Nat
  | [] => 0
  | d :: r => uptoBulk d + uptoBulkAll r
def uptoBulkEntries {H : Type} : List (Lit × DataW H) → Nat
  | [] => 0
  | x :: r => uptoBulkEntry x + uptoBulkEntries r
def uptoBulkEntry {H : Type} : Lit × DataW H → Nat
  | (.string bytes, d) => bytes.length + uptoBulk d + 1
  | (_, d) => uptoBulk d + 1
 end
def uptoSmall : (H : Type) → List (DataW H) → Bool := fun _ ds => decide (uptoBulkAll ds ≤ 1048576)
def OpenSpec.upto (s : _root_.Go.ChangeSpec) : _root_.Go.OpenSpec := { _root_.Go.OpenSpec.ofChange s with cond := some uptoSmall }

/-- 'demesnelaw07.MacTells', WHERE WHAT IT READS IS OF BULK AT MOST 1048576: true; the input reads as it did. -/
def macTellsUptoRow : OpenClaim := { program := "ythopegokjbibmaadoor", sum := "f1cb9a30dd7cbd226ff98ae513908ae93719318ab50cd5f53a9a39053dd985eb", func := "demesne/demesnelaw07.MacTells", spec := "macTells", unfollowed := true, recurses := true, named := ["demesne/sha.squareRoots", "demesne/sha.cubeRoots"], apart := false, laid := [("demesne/sha.squareRoots", laid_demesne_sha_squareRoots), ("demesne/sha.cubeRoots", laid_demesne_sha_cubeRoots)], narrowed := true }
def MacTellsUptoSaid : Prop := macTellsUptoRow.holds Tryd.pinned (OpenSpec.upto macTellsSpec)

/-- 'demesnelaw07.MacChecks', WHERE WHAT IT READS IS OF BULK AT MOST 1048576: true; the input reads as it did. -/
def macChecksUptoRow : OpenClaim := { program := "ythopegokjbibmaadoor", sum := "f1cb9a30dd7cbd226ff98ae513908ae93719318ab50cd5f53a9a39053dd985eb", func := "demesne/demesnelaw07.MacChecks", spec := "macChecks", unfollowed := true, recurses := true, named := ["demesne/sha.squareRoots", "demesne/sha.cubeRoots"], apart := false, laid := [("demesne/sha.squareRoots", laid_demesne_sha_squareRoots), ("demesne/sha.cubeRoots", laid_demesne_sha_cubeRoots)], narrowed := true }
def MacChecksUptoSaid : Prop := macChecksUptoRow.holds Tryd.pinned (OpenSpec.upto macChecksSpec)

/-- 'demesnelaw07.MacNarrows', WHERE WHAT IT READS IS OF BULK AT MOST 1048576: true; the input reads as it did. -/
def macNarrowsUptoRow : OpenClaim := { program := "ythopegokjbibmaadoor", sum := "f1cb9a30dd7cbd226ff98ae513908ae93719318ab50cd5f53a9a39053dd985eb", func := "demesne/demesnelaw07.MacNarrows", spec := "macNarrows", unfollowed := true, recurses := true, named := ["demesne/sha.squareRoots", "demesne/sha.cubeRoots"], apart := false, laid := [("demesne/sha.squareRoots", laid_demesne_sha_squareRoots), ("demesne/sha.cubeRoots", laid_demesne_sha_cubeRoots)], narrowed := true }
def MacNarrowsUptoSaid : Prop := macNarrowsUptoRow.holds Tryd.pinned (OpenSpec.upto macNarrowsSpec)

/-- 'demesnelaw07.MacBack', WHERE WHAT IT READS IS OF BULK AT MOST 1048576: true; the input reads as it did. -/
def macBackUptoRow : OpenClaim := { program := "ythopegokjbibmaadoor", sum := "f1cb9a30dd7cbd226ff98ae513908ae93719318ab50cd5f53a9a39053dd985eb", func := "demesne/demesnelaw07.MacBack", spec := "macBack", unfollowed := true, recurses := true, named := ["demesne/sha.squareRoots", "demesne/sha.cubeRoots"], apart := false, laid := [("demesne/sha.squareRoots", laid_demesne_sha_squareRoots), ("demesne/sha.cubeRoots", laid_demesne_sha_cubeRoots)], narrowed := true }
def MacBackUptoSaid : Prop := macBackUptoRow.holds Tryd.pinned (OpenSpec.upto macBackSpec)

/-- 'demesnelaw07.MacOnce', WHERE WHAT IT READS IS OF BULK AT MOST 1048576: true; the input reads as it did. -/
def macOnceUptoRow : OpenClaim := { program := "ythopegokjbibmaadoor", sum := "f1cb9a30dd7cbd226ff98ae513908ae93719318ab50cd5f53a9a39053dd985eb", func := "demesne/demesnelaw07.MacOnce", spec := "macOnce", unfollowed := true, recurses := true, named := ["demesne/sha.squareRoots", "demesne/sha.cubeRoots"], apart := false, laid := [("demesne/sha.squareRoots", laid_demesne_sha_squareRoots), ("demesne/sha.cubeRoots", laid_demesne_sha_cubeRoots)], narrowed := true }
def MacOnceUptoSaid : Prop := macOnceUptoRow.holds Tryd.pinned (OpenSpec.upto macOnceSpec)

/-- 'demesnelaw07.MacShared', WHERE WHAT IT READS IS OF BULK AT MOST 1048576: true; the input reads as it did. -/
def macSharedUptoRow : OpenClaim := { program := "ythopegokjbibmaadoor", sum := "f1cb9a30dd7cbd226ff98ae513908ae93719318ab50cd5f53a9a39053dd985eb", func := "demesne/demesnelaw07.MacShared", spec := "macShared", unfollowed := true, recurses := true, named := ["demesne/sha.squareRoots", "demesne/sha.cubeRoots"], apart := false, laid := [("demesne/sha.squareRoots", laid_demesne_sha_squareRoots), ("demesne/sha.cubeRoots", laid_demesne_sha_cubeRoots)], narrowed := true }
def MacSharedUptoSaid : Prop := macSharedUptoRow.holds Tryd.pinned (OpenSpec.upto macSharedSpec)

end Rows
end Go.Proofs.YthopegokjbibmaaDoor
