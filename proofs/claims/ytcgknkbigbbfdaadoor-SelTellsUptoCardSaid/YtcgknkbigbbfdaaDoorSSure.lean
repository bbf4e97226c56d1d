/- What sel.sure and sel.parseTerm answer of any term and any piece, where they leave by a panic too; of memory that was there nothing turns. -/
import Derived.Test.YtcgknkbigbbfdaaDoorSSplit
import Derived.Test.YtcgknkbigbbfdaaDoorBoxes
namespace Go.Proofs.YtcgknkbigbbfdaaDoor.Sel
open Go.RowKit Go.Proofs.YtcgknkbigbbfdaaDoor.Texts Go.Proofs.YtcgknkbigbbfdaaDoor.Word Go.Proofs.YtcgknkbigbbfdaaDoor.Forms Go.Proofs.YtcgknkbigbbfdaaDoor.Split Go.Proofs.YtcgknkbigbbfdaaDoor.Boxes

set_option maxHeartbeats 1000000 in
set_option maxRecDepth 100000 in
theorem sure_yes (k : ByteArray) (n : Bool) (a : Option Addr) (cap : Nat) (vs : List ByteArray) (w : World) (hs : SRow w (.slice a vs.length cap) vs) (hl : vs.length ≤ 4611686018427387904) (ht : rightT (k, n, vs) = true) :
    Calls Tryd.prog 54 #[.agg #[.string k, .bool n, .slice a vs.length cap]] w fun e w' => e = .returned (.agg #[.string k, .bool n, .slice a vs.length cap]) ∧ Below w.heap.size w w' := by
  have HW : Hid (∀ W, Below w.heap.size w W → Calls Tryd.prog 39 #[.agg #[.string k, .bool n, .slice a vs.length cap]] W fun e w' => e = .returned (.bool false) ∧ Below W.heap.size W w') := Lib.hid fun W h => by
    have := isWrong_any _ (k, n, vs) W ⟨_, rfl, hs.below h⟩ hl
    rw [ht] at this
    exact this
  clear hs ht
  go_enter Tryd.func54, Tryd.ntmps54
  go_wp2_with fail
  with_reducible refine (HW.out _ (grows (grew w _) (grew _ _))).mono ?_
  rintro e w1 ⟨rfl, hb1⟩
  have hb := grows (grows (grew w _) (grew _ _)) hb1
  have hA := keep (keep (fresh w _) (old _ _)) hb1
  have hB := keep (fresh1 w _ _) hb1
  obtain ⟨c0, c1, c2, _⟩ := cells3 hA
  obtain ⟨d0, d1, d2, f0, f1, f2⟩ := cells3 hB
  obtain ⟨e0, e1, e2, _⟩ := cells3 (set3_box hB (.string k) (.bool n) (.slice a vs.length cap))
  have hz := set3_below (a := .string k) (b := .bool n) (c := .slice a vs.length cap) (T := w.heap.size + 1) hb (by omega)
  unfold set3 at e0 e1 e2 hz
  clear hb1 hA hB
  go_wp2
  refine bodyPost_ret (v := .agg #[.string k, .bool n, .slice a vs.length cap]) (by simp [results, Tryd.results54, go_sem, e0, e1, e2]) rfl ?_
  exact ⟨rfl, hz⟩
set_option maxHeartbeats 1000000 in
set_option maxRecDepth 100000 in
theorem sure_no (k : ByteArray) (n : Bool) (a : Option Addr) (cap : Nat) (vs : List ByteArray) (w : World) (hs : SRow w (.slice a vs.length cap) vs) (hl : vs.length ≤ 4611686018427387904) (ht : rightT (k, n, vs) = false) (hE : Err w) :
    Calls Tryd.prog 54 #[.agg #[.string k, .bool n, .slice a vs.length cap]] w fun e w' => Falls e ∧ Below w.heap.size w w' := by
  have HW : Hid (∀ W, Below w.heap.size w W → Calls Tryd.prog 39 #[.agg #[.string k, .bool n, .slice a vs.length cap]] W fun e w' => e = .returned (.bool true) ∧ Below W.heap.size W w') := Lib.hid fun W h => by
    have := isWrong_any _ (k, n, vs) W ⟨_, rfl, hs.below h⟩ hl
    rw [ht] at this
    exact this
  have HE : Hid (∀ W, Below w.heap.size w W → Err W) := Lib.hid fun W h => hE.below h
  clear hs ht hE
  go_enter Tryd.func54, Tryd.ntmps54
  go_wp2_with fail
  with_reducible refine (HW.out _ (grows (grew w _) (grew _ _))).mono ?_
  rintro e w1 ⟨rfl, hb1⟩
  have hb := grows (grows (grew w _) (grew _ _)) hb1
  obtain ⟨T, p, hc⟩ := HE.out _ hb
  clear hb1
  go_wp2
  exact ⟨rfl, ⟨T, p, rfl⟩, hb⟩
end Go.Proofs.YtcgknkbigbbfdaaDoor.Sel
