/- What the document's own Parse answers of any text (chapter 3): the amounts whose text it is, or none; of memory that was there nothing turns. -/
import Derived.Test.YtbilkeadhflibaaGreatDoorYRefE
namespace Go.Proofs.YtbilkeadhflibaaGreatDoor.Job
open Go.RowKit Go.Proofs.YtbilkeadhflibaaGreatDoor.Wire Go.Proofs.YtbilkeadhflibaaGreatDoor.Vec Go.Proofs.YtbilkeadhflibaaGreatDoor.Sel Go.Proofs.YtbilkeadhflibaaGreatDoor.Forms

/-- What has been cut of a text at one byte, up to a place, and where the next piece begins. -/
def spc (c : UInt8) (t : ByteArray) : Nat → List ByteArray × Nat
  | 0 => ([], 0)
  | i + 1 => if i = t.size ∨ t.data.toList.getD i 0 = c then ((spc c t i).1 ++ [t.extract (spc c t i).2 i], i + 1) else spc c t i
theorem spc_at (c : UInt8) (t : ByteArray) : ∀ i, i ≤ t.size → (spc c t i).2 ≤ i ∧ cuts c t.data.toList = (spc c t i).1.map (fun t => t.data.toList) ++ cuts c (t.data.toList.drop (spc c t i).2) ∧ c ∉ (t.data.toList.drop (spc c t i).2).take (i - (spc c t i).2)
  | 0, _ => ⟨Nat.le_refl _, rfl, by simp [spc]⟩
  | i + 1, hi => by
    obtain ⟨h1, h2, h3⟩ := spc_at c t i (by omega)
    have hl : i < t.data.toList.length := by rw [size_list]; omega
    have hg : t.data.toList.getD i 0 = t.data.toList[i] := by rw [List.getD_eq_getElem?_getD, List.getElem?_eq_getElem hl]; rfl
    have hd : (t.data.toList.drop (spc c t i).2).drop (i - (spc c t i).2) = t.data.toList[i] :: t.data.toList.drop (i + 1) := by
      rw [List.drop_drop, show (spc c t i).2 + (i - (spc c t i).2) = i by omega, List.drop_eq_getElem_cons hl]
    unfold spc
    rw [hg]
    by_cases hc : t.data.toList[i] = c
    · rw [if_pos (.inr hc)]
      refine ⟨Nat.le_refl _, ?_, by simp⟩
      have e : (t.extract (spc c t i).2 i).data.toList = (t.data.toList.drop (spc c t i).2).take (i - (spc c t i).2) := by
        rw [← Lib.toList_data]
        have := ext_list t (spc c t i).2 (i - (spc c t i).2)
        rwa [show (spc c t i).2 + (i - (spc c t i).2) = i by omega] at this
      rw [h2, List.map_append, List.append_assoc]
      congr 1
      show _ = [(t.extract (spc c t i).2 i).data.toList] ++ _
      rw [e]
      show _ = (t.data.toList.drop (spc c t i).2).take (i - (spc c t i).2) :: cuts c (t.data.toList.drop (i + 1))
      rw [← cuts_cut _ h3]
      have hz : c :: t.data.toList.drop (i + 1) = (t.data.toList.drop (spc c t i).2).drop (i - (spc c t i).2) := by rw [hd, hc]
      rw [hz, List.take_append_drop]
    · rw [if_neg (by intro h; rcases h with h | h; exact absurd h (by omega); exact hc h)]
      refine ⟨by omega, h2, fun hm => ?_⟩
      have e : (t.data.toList.drop (spc c t i).2).take (i + 1 - (spc c t i).2) = (t.data.toList.drop (spc c t i).2).take (i - (spc c t i).2) ++ [t.data.toList[i]] := by
        rw [show i + 1 - (spc c t i).2 = (i - (spc c t i).2) + 1 by omega, List.take_add_one]
        congr 1
        have h := congrArg List.head? hd
        rw [List.head?_drop] at h
        rw [h]
        rfl
      rw [e] at hm
      rcases List.mem_append.1 hm with h | h
      · exact h3 h
      · simp at h
        exact hc h.symm
theorem spc_end (c : UInt8) (t : ByteArray) : (spc c t (t.size + 1)).1.map (fun t => t.data.toList) = cuts c t.data.toList := by
  obtain ⟨h1, h2, h3⟩ := spc_at c t t.size (Nat.le_refl _)
  unfold spc
  rw [if_pos (.inl rfl), List.map_append, h2]
  congr 1
  have hz : (t.data.toList.drop (spc c t t.size).2).take (t.size - (spc c t t.size).2) = t.data.toList.drop (spc c t t.size).2 := List.take_of_length_le (by rw [List.length_drop, size_list]; omega)
  rw [hz] at h3
  rw [cuts_free h3]
  have e : (t.extract (spc c t t.size).2 t.size).data.toList = t.data.toList.drop (spc c t t.size).2 := by
    rw [← Lib.toList_data]
    have := ext_list t (spc c t t.size).2 (t.size - (spc c t t.size).2)
    rw [show (spc c t t.size).2 + (t.size - (spc c t t.size).2) = t.size by omega, hz] at this
    exact this
  rw [List.map_cons, List.map_nil, e]
theorem spc_pre (c : UInt8) (t : ByteArray) (i : Nat) (hi : i ≤ t.size + 1) : ∃ r, cuts c t.data.toList = (spc c t i).1.map (fun t => t.data.toList) ++ r := by
  by_cases h : i ≤ t.size
  · exact ⟨_, (spc_at c t i h).2.1⟩
  · obtain rfl : i = t.size + 1 := by omega
    exact ⟨[], by rw [spc_end, List.append_nil]⟩
/-- The number that the k-th piece is. -/
def pv (t : ByteArray) (k : Nat) : Option Nat := match (cuts 58 t.data.toList)[k]? with
  | some a => numL (str a)
  | none => none
theorem pv_at {t : ByteArray} {i : Nat} (hi : i ≤ t.size) (h : i = t.size ∨ t.data.toList.getD i 0 = 58) : pv t (spc 58 t i).1.length = numL (t.extract (spc 58 t i).2 i) ∧ (spc 58 t i).1.length < (cuts 58 t.data.toList).length := by
  obtain ⟨r, hr⟩ := spc_pre 58 t (i + 1) (by omega)
  have hs : spc 58 t (i + 1) = ((spc 58 t i).1 ++ [t.extract (spc 58 t i).2 i], i + 1) := if_pos h
  rw [hs, List.map_append, List.append_assoc] at hr
  have hk : (cuts 58 t.data.toList)[(spc 58 t i).1.length]? = some (t.extract (spc 58 t i).2 i).data.toList := by
    rw [hr, List.getElem?_append_right (by rw [List.length_map]; exact Nat.le_refl _), List.length_map, Nat.sub_self]
    rfl
  refine ⟨?_, ?_⟩
  · unfold pv
    rw [hk]
    show numL (str (t.extract _ i).data.toList) = _
    congr 1
  · exact (List.getElem?_eq_some_iff.1 hk).1
theorem vecP_no {t : ByteArray} {k : Nat} (hk : k < (cuts 58 t.data.toList).length) (h : pv t k = none) : vecP t = none := by
  unfold vecP
  split
  · rename_i a b c d hc
    unfold pv at h
    rw [hc] at h hk
    have h4 : k < 4 := hk
    rcases lt4 h4 with rfl | rfl | rfl | rfl <;> (simp only [List.getElem?_cons_zero, List.getElem?_cons_succ] at h; rw [h]; try rfl) <;> (split <;> simp_all)
  · rfl
theorem vecP_len {t : ByteArray} (h : (cuts 58 t.data.toList).length ≠ 4) : vecP t = none := by
  unfold vecP
  split
  · rename_i a b c d hc
    rw [hc] at h
    simp at h
  · rfl
theorem vecP_four {t : ByteArray} (h : (cuts 58 t.data.toList).length = 4) (hall : ∀ k, k < 4 → (pv t k).isSome = true) : vecP t = some ((pv t 0).getD 0, (pv t 1).getD 0, (pv t 2).getD 0, (pv t 3).getD 0) := by
  have h0 := hall 0 (by omega)
  have h1 := hall 1 (by omega)
  have h2 := hall 2 (by omega)
  have h3 := hall 3 (by omega)
  unfold pv at *
  unfold vecP
  match hc : cuts 58 t.data.toList, h with
  | [a, b, c, d], _ =>
    rw [hc] at h0 h1 h2 h3
    simp only [List.getElem?_cons_zero, List.getElem?_cons_succ] at h0 h1 h2 h3 ⊢
    obtain ⟨x0, e0⟩ := Option.isSome_iff_exists.1 h0
    obtain ⟨x1, e1⟩ := Option.isSome_iff_exists.1 h1
    obtain ⟨x2, e2⟩ := Option.isSome_iff_exists.1 h2
    obtain ⟨x3, e3⟩ := Option.isSome_iff_exists.1 h3
    rw [e0, e1, e2, e3]
    rfl
end Go.Proofs.YtbilkeadhflibaaGreatDoor.Job
