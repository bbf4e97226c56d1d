/- Selectors and texts that are written out, in memory; what a selector of one term matches. -/
import Derived.Test.YtbilkeadhflibaaGreatDoorJL4
namespace Go.Proofs.YtbilkeadhflibaaGreatDoor.Sel
open Go.RowKit Go.Proofs.YtbilkeadhflibaaGreatDoor.Texts Go.Proofs.YtbilkeadhflibaaGreatDoor.Word Go.Proofs.YtbilkeadhflibaaGreatDoor.Forms Go.Proofs.YtbilkeadhflibaaGreatDoor.Boxes Go.Proofs.YtbilkeadhflibaaGreatDoor.Label

theorem srow_one (w : World) (x : ByteArray) (T : TypeId) : SRow (w.alloc (.cells #[.string x] T)) (.slice (some ⟨w.heap.size, 0, none⟩) 1 1) [x] := by
  refine .inr ⟨by simp, w.heap.size, 0, 1, rfl, lt_of (fresh w _), Nat.le_refl _, by decide, fun j t hj => ?_⟩
  match j with
  | 0 => simp at hj; subst hj; exact cell_at (i := 0) (fresh w _) rfl
  | (n + 1) => simp at hj
theorem trow_one (w : World) (t : Tm) (s : Value) (T : TypeId) (hs : SRow w s t.2.2) : TRow (w.alloc (.cells #[.string t.1, .bool t.2.1, s] T)) (.slice (some ⟨w.heap.size, 0, none⟩) 1 1) [t] := by
  obtain ⟨h1, h2, h3, _⟩ := cells3 (fresh w (.cells #[.string t.1, .bool t.2.1, s] T))
  refine .inr ⟨by simp, w.heap.size, 0, 1, rfl, lt_of (fresh w _), Nat.le_refl _, by decide, fun j x hj => ?_⟩
  match j with
  | 0 => simp at hj; subst hj; exact ⟨h1, h2, s, h3, hs.below (old w _)⟩
  | (n + 1) => simp at hj
theorem match_one (f : ByteArray → Option ByteArray) (t : Tm) : matchS f [t] = holdsT (f t.1) t := by simp [matchS]
theorem holds_one (x v : ByteArray) (k : ByteArray) : holdsT (some x) (k, false, [v]) = (v.toList == x.toList) := by
  unfold holdsT
  simp
theorem holds_nil (t : Tm) : holdsT none t = t.2.1 := by
  unfold holdsT
  cases t.2.1 <;> rfl
theorem find_same (k v : ByteArray) (r : List Pr) : findL ((k, v) :: r) k = some v := by simp [findL]
theorem find_other {o k v : ByteArray} {r : List Pr} (h : (o.toList == k.toList) = false) : findL ((o, v) :: r) k = findL r k := by simp [findL, h]
theorem find_nil (k : ByteArray) : findL [] k = none := rfl
theorem fair_one {t : Tm} (h1 : t.1.size ≤ 4611686018427387904) (h2 : t.2.2.length ≤ 4611686018427387904) (h3 : ∀ x ∈ t.2.2, x.size ≤ 4611686018427387904) : Fair [t] := ⟨by simp, fun u hu => by simp at hu; subst hu; exact ⟨h1, h2, h3⟩⟩
end Go.Proofs.YtbilkeadhflibaaGreatDoor.Sel
