/- What the document's own Right, has, Match and Same answer of any selectors, and what the statements' own refS does; of memory that was there nothing turns. -/
import Derived.Test.YtbilkeadhflibaaGreatDoorSRef4
namespace Go.Proofs.YtbilkeadhflibaaGreatDoor.Sel
open Go.RowKit Go.Proofs.YtbilkeadhflibaaGreatDoor.Texts Go.Proofs.YtbilkeadhflibaaGreatDoor.Word Go.Proofs.YtbilkeadhflibaaGreatDoor.Forms Go.Proofs.YtbilkeadhflibaaGreatDoor.Boxes Go.Proofs.YtbilkeadhflibaaGreatDoor.Label

theorem infoT5 : (Tryz.prog.info? 108).map (fun i => (i.zero, i.size, i.bytes)) = some (some (.agg #[.string ByteArray.empty, .bool false, .slice none 0 0]), 3, 48) := by kernel_rfl


/-- Is a text among some? (The document's way round.) -/
def hasV (x : ByteArray) (ts : List ByteArray) : Bool := ts.any fun y => y.toList == x.toList
theorem hasV_take {x y : ByteArray} {ts : List ByteArray} {k : Nat} (hy : ts[k]? = some y) (h : hasV x (ts.take k) = false) : hasV x (ts.take (k + 1)) = (y.toList == x.toList) := by
  unfold hasV at *
  rw [List.take_add_one, hy, List.any_append, h]
  simp
theorem holds_hasV (x : ByteArray) (k : ByteArray) (n : Bool) (t : ByteArray) (ts : List ByteArray) : holdsT (some x) (k, n, t :: ts) = (hasV x (t :: ts) != n) := by
  unfold holdsT hasV
  simp

end Go.Proofs.YtbilkeadhflibaaGreatDoor.Sel
