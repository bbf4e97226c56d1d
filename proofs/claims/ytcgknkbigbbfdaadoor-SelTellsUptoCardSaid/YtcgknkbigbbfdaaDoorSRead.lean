/- How a selector's text is read piece by piece, and that this is what the document's Parse tells; no program but the cuts. -/
import Derived.Test.YtcgknkbigbbfdaaDoorSCut
namespace Go.Proofs.YtcgknkbigbbfdaaDoor.Sel
open Go.Proofs.YtcgknkbigbbfdaaDoor.Word Go.Proofs.YtcgknkbigbbfdaaDoor.Forms Go.Proofs.YtcgknkbigbbfdaaDoor.Split

/-- A term of a piece, as it is read at its first equals sign. -/
def readP (q : List UInt8) : Tm :=
  if q.head? = some 33 then (str q.tail, true, []) else
  if (cutAt q 61).2.2 = false then (str q, false, []) else
  if (cutAt q 61).1.getLast? = some 33 then (str (cutAt q 61).1.dropLast, true, (cuts 124 (cutAt q 61).2.1).map str)
  else (str (cutAt q 61).1, false, (cuts 124 (cutAt q 61).2.1).map str)
theorem cutAt_free {q : List UInt8} {c : UInt8} (h : c ∉ q) : cutAt q c = (q, [], false) := by
  rcases index_cases q c with ⟨h1, _⟩ | ⟨i, _, _, h3, _⟩
  · exact cutAt_no h1
  · exact absurd (by rw [h3]; simp) h
theorem cutAt_in {q : List UInt8} {c : UInt8} (h : c ∈ q) : ∃ a b, cutAt q c = (a, b, true) ∧ q = a ++ c :: b ∧ c ∉ a := by
  rcases index_cases q c with ⟨_, h1⟩ | ⟨i, h1, _, h3, h4⟩
  · exact absurd h h1
  · exact ⟨_, _, cutAt_yes h1, h3, h4⟩
/-- Where the document's reading of a piece is right, this is the same. -/
theorem readP_of {q : List UInt8} (h : rightT (readT q) = true) : readP q = readT q := by
  unfold readP readT
  split
  · rfl
  rename_i h33
  by_cases hm : (61 : UInt8) ∈ q
  · obtain ⟨a, b, e, hq, ha⟩ := cutAt_in hm
    rw [e]
    simp only [Bool.true_eq_false, if_false]
    have hc : cuts 61 q = a :: cuts 61 b := by rw [hq, cuts_cut b ha]
    by_cases hb : (61 : UInt8) ∈ b
    · exfalso
      obtain ⟨a', b', _, hq', ha'⟩ := cutAt_in hb
      have hc2 : cuts 61 q = a :: a' :: cuts 61 b' := by rw [hc, hq', cuts_cut b' ha']
      have hne := cuts_ne 61 b'
      have h2 : twoT (cuts 61 q) = none := by
        rw [hc2]
        cases hcb : cuts 61 b' with
        | nil => exact absurd hcb hne
        | cons x r => rfl
      have hr : readT q = (str q, false, []) := by
        unfold readT
        rw [if_neg h33, h2]
      rw [hr] at h
      have h1 := (rightT_parts h).1
      rw [str_toList] at h1
      exact name_lacks 61 (by decide) (by decide) (by decide) h1 hm
    · rw [hc, cuts_free hb]
      rfl
  · rw [cutAt_free hm, cuts_free hm]
    rfl
/-- What is read right of a piece is shown as it. -/
theorem show_readP {q : List UInt8} : showT (readP q) = q := by
  unfold readP
  split
  · rename_i h
    cases q with
    | nil => simp at h
    | cons d l =>
      simp at h
      subst h
      simp [showT, str_toList]
  · split
    · simp [showT, str_toList]
    · rename_i h
      have hm : (61 : UInt8) ∈ q := by
        apply Classical.byContradiction
        intro hn
        rw [cutAt_free hn] at h
        exact h rfl
      obtain ⟨a, b, e, hq, ha⟩ := cutAt_in hm
      rw [e]
      simp only
      have hvs : (cuts 124 b).map str ≠ [] := by have := cuts_ne 124 b; simp [this]
      have hdat : ((cuts 124 b).map str).map (fun v => v.data.toList) = cuts 124 b := by
        rw [List.map_map]
        conv => rhs; rw [← List.map_id (cuts 124 b)]
        apply List.map_congr_left
        intro v _
        exact str_toList v
      split
      · rename_i hl
        unfold showT
        simp only
        rw [if_neg hvs, hdat, glue_cuts, str_toList]
        have : a.dropLast ++ [33] = a := by
          cases a with
          | nil => simp at hl
          | cons d l =>
            have := List.dropLast_concat_getLast (l := d :: l) (by simp)
            rw [List.getLast?_eq_some_getLast (by simp)] at hl
            simp only [Option.some.injEq] at hl
            rw [hl] at this
            exact this
        simp only [if_true]
        rw [← List.append_assoc, this]
        exact hq.symm
      · unfold showT
        simp only
        rw [if_neg hvs, hdat, glue_cuts, str_toList]
        simp only [Bool.false_eq_true, if_false, List.nil_append]
        exact hq.symm
/-- The right selector of a text, read piece by piece. -/
def parseP (s : ByteArray) : Option (List Tm) :=
  if s = ⟨#[45]⟩ then some [] else
  if (cuts 44 s.data.toList).length ≤ 4 ∧ (cuts 44 s.data.toList).all (fun q => rightT (readP q)) = true then some ((cuts 44 s.data.toList).map readP) else none
theorem parseP_eq (s : ByteArray) : parseP s = parseS s := by
  unfold parseP
  split
  · rename_i h
    unfold parseS
    rw [if_pos h]
  · rename_i hd
    split
    · rename_i h
      symm
      rw [parse_iff]
      have hr : rightS ((cuts 44 s.data.toList).map readP) = true := by
        unfold rightS
        rw [Bool.and_eq_true, decide_eq_true_eq, List.length_map, List.all_map]
        exact ⟨h.1, h.2⟩
      refine ⟨hr, ?_⟩
      have hne := cuts_ne 44 s.data.toList
      unfold textS
      rw [if_pos hr, if_neg (by simp [hne]), List.map_map]
      have : (cuts 44 s.data.toList).map (showT ∘ readP) = cuts 44 s.data.toList := by
        conv => rhs; rw [← List.map_id (cuts 44 s.data.toList)]
        apply List.map_congr_left
        intro q _
        exact show_readP
      rw [this, glue_cuts, str_data]
    · rename_i h
      cases hp : parseS s with
      | none => rfl
      | some ls =>
        exfalso
        obtain ⟨hr, ht⟩ := parse_back hp
        cases ls with
        | nil => exact hd (by rw [← ht]; rfl)
        | cons t ls =>
          have hts := (rightS_parts hr).2
          have hc : cuts 44 s.data.toList = (t :: ls).map showT := by
            rw [← ht, textS_cons hr, str_toList, List.map_cons, cuts_glue 44 _ _ (fun x hx => by
              obtain ⟨u, hu, rfl⟩ := List.mem_map.1 (show x ∈ (t :: ls).map showT from hx)
              exact showT_lacks (hts u hu))]
          apply h
          rw [hc, List.length_map, List.all_map, List.all_eq_true]
          refine ⟨(rightS_parts hr).1, fun u hu => ?_⟩
          have h1 := readT_show (hts u hu)
          show rightT (readP (showT u)) = true
          rw [readP_of (by rw [h1]; exact hts u hu), h1]
          exact hts u hu
end Go.Proofs.YtcgknkbigbbfdaaDoor.Sel
