/- What stands between the blanks of what is shown of a job are its words; two are shown alike just if they are the same: no program. -/
import Derived.Test.YtbilkeadhflibaaGreatDoorJL4
namespace Go.Proofs.YtbilkeadhflibaaGreatDoor.Job
open Go.RowKit Go.Proofs.YtbilkeadhflibaaGreatDoor.Wire Go.Proofs.YtbilkeadhflibaaGreatDoor.Vec Go.Proofs.YtbilkeadhflibaaGreatDoor.Sel Go.Proofs.YtbilkeadhflibaaGreatDoor.Forms

theorem mem_glueC {c x : UInt8} : ∀ (ls : List (List UInt8)), x ∈ glueC c ls → x = c ∨ ∃ l ∈ ls, x ∈ l
  | [], h => by cases h
  | [a], h => .inr ⟨a, by simp, h⟩
  | a :: b :: ls, h => by
    rcases List.mem_append.1 (show x ∈ a ++ c :: glueC c (b :: ls) from h) with h | h
    · exact .inr ⟨a, by simp, h⟩
    · rcases List.mem_cons.1 h with h | h
      · exact .inl h
      · rcases mem_glueC (b :: ls) h with h | ⟨l, hl, h⟩
        · exact .inl h
        · exact .inr ⟨l, List.mem_cons_of_mem _ hl, h⟩
theorem mem_glue {x : UInt8} : ∀ (ls : List (List UInt8)), x ∈ Word.glue ls → x = 47 ∨ ∃ l ∈ ls, x ∈ l
  | [], h => by cases h
  | [a], h => .inr ⟨a, by simp, h⟩
  | a :: b :: ls, h => by
    rcases List.mem_append.1 (show x ∈ a ++ 47 :: Word.glue (b :: ls) from h) with h | h
    · exact .inr ⟨a, by simp, h⟩
    · rcases List.mem_cons.1 h with h | h
      · exact .inl h
      · rcases mem_glue (b :: ls) h with h | ⟨l, hl, h⟩
        · exact .inl h
        · exact .inr ⟨l, List.mem_cons_of_mem _ hl, h⟩
theorem name32 {l : List UInt8} (h : Word.right l = true) : (32 : UInt8) ∉ l := name_lacks 32 (by decide) (by decide) (by decide) h
theorem path32 {l : List UInt8} (h : Word.parts l ≠ []) : (32 : UInt8) ∉ l := fun hm => by
  have hg := Word.parts_glue h
  have hp : ∀ x ∈ Word.parts l, Word.right x = true := by
    rw [Word.parts_cut] at h ⊢
    split at h
    · rename_i hc
      rw [if_pos hc]
      exact List.all_eq_true.1 hc.2
    · exact absurd rfl h
  rw [← hg] at hm
  rcases mem_glue _ hm with h | ⟨x, hx, h⟩
  · cases h
  · exact name32 (hp x hx) h
theorem vec32 (v : V4) : (32 : UInt8) ∉ (textV v).data.toList := fun hm => by
  rw [textV_list] at hm
  rcases mem_glueC _ hm with h | ⟨x, hx, h⟩
  · cases h
  · simp only [List.mem_cons, List.not_mem_nil, or_false] at hx
    rcases hx with rfl | rfl | rfl | rfl <;> exact dec_free32 _ h
theorem show32 {t : Tm} (ht : rightT t = true) : (32 : UInt8) ∉ showT t := fun hm => by
  obtain ⟨h1, _, h3, _⟩ := rightT_parts ht
  have hk := name32 h1
  unfold showT at hm
  split at hm
  · split at hm
    · rcases List.mem_cons.1 hm with h | h
      · cases h
      · exact hk h
    · exact hk hm
  · rcases List.mem_append.1 hm with h | h
    · exact hk h
    · rcases List.mem_append.1 h with h | h
      · split at h
        · simp at h
        · cases h
      · rcases List.mem_cons.1 h with h | h
        · cases h
        · rcases mem_glueC _ h with h | ⟨x, hx, h⟩
          · cases h
          · obtain ⟨v, hv, rfl⟩ := List.mem_map.1 hx
            exact name32 (h3 v hv) h
theorem sel32 {ls : List Tm} (hr : rightS ls = true) : (32 : UInt8) ∉ (textS ls).data.toList := fun hm => by
  unfold textS at hm
  rw [if_pos hr] at hm
  split at hm
  · revert hm
    decide
  · change (32 : UInt8) ∈ glueC 44 (ls.map showT) at hm
    rcases mem_glueC _ hm with h | ⟨x, hx, h⟩
    · cases h
    · obtain ⟨t, ht, rfl⟩ := List.mem_map.1 hx
      exact show32 ((rightS_parts hr).2 t ht) h
theorem words32 {x : Jb} (h : checkJ x = 0) : ∀ w ∈ (wordsJ x).map (fun t => t.data.toList), (32 : UInt8) ∉ w := fun w hw => by
  obtain ⟨hp, _, hr, _⟩ := checkJ_ok.1 h
  rw [wordsJ_eq] at hw
  simp only [List.map_cons, List.map_nil, List.mem_cons, List.not_mem_nil, or_false] at hw
  have hd : ∀ u, (dec u).data.toList = Lib.decDigits u := fun u => rfl
  rcases hw with rfl | rfl | rfl | rfl | rfl | rfl
  · exact path32 hp
  · exact vec32 _
  · rw [hd]; exact dec_free32 _
  · rw [hd]; exact dec_free32 _
  · rw [hd]; exact dec_free32 _
  · exact sel32 hr
theorem textJ_list {x : Jb} (h : checkJ x = 0) : (textJ x).data.toList = glueC 32 ((wordsJ x).map fun t => t.data.toList) := by
  unfold textJ
  rw [if_pos h, str_data_list]
theorem cuts_job {x : Jb} (h : checkJ x = 0) : cuts 32 (textJ x).data.toList = (wordsJ x).map fun t => t.data.toList := by
  rw [textJ_list h]
  exact cuts_glue 32 _ _ (words32 h)
theorem map_inj : ∀ {a b : List ByteArray}, (a.map fun t => t.data.toList) = (b.map fun t => t.data.toList) → a = b
  | [], [], _ => rfl
  | [], _ :: _, h => by cases h
  | _ :: _, [], h => by cases h
  | x :: a, y :: b, h => by
    simp only [List.map_cons, List.cons.injEq] at h
    have hx : x = y := list_eq_of_toList (by rw [Lib.toList_data, Lib.toList_data]; exact h.1)
    rw [hx, map_inj h.2]
theorem textJ_inj {x y : Jb} (hx : checkJ x = 0) (hy : checkJ y = 0) (fx : FairJ x) (fy : FairJ y) (h : textJ x = textJ y) : x = y := by
  have h1 : wordsJ x = wordsJ y := map_inj (by rw [← cuts_job hx, ← cuts_job hy, h])
  have p1 := parseJ_words hx fx
  rw [h1, parseJ_words hy fy] at p1
  injection p1 with p1
  exact p1.symm

/-- What has been cut of a text at blanks, up to a place, and where the next piece begins. -/
def sp (t : ByteArray) : Nat → List ByteArray × Nat
  | 0 => ([], 0)
  | i + 1 => if i = t.size ∨ t.data.toList.getD i 0 = 32 then ((sp t i).1 ++ [t.extract (sp t i).2 i], i + 1) else sp t i
theorem sp_at (t : ByteArray) : ∀ i, i ≤ t.size → (sp t i).2 ≤ i ∧ cuts 32 t.data.toList = (sp t i).1.map (fun t => t.data.toList) ++ cuts 32 (t.data.toList.drop (sp t i).2) ∧ (32 : UInt8) ∉ (t.data.toList.drop (sp t i).2).take (i - (sp t i).2)
  | 0, _ => ⟨Nat.le_refl _, rfl, by simp [sp]⟩
  | i + 1, hi => by
    obtain ⟨h1, h2, h3⟩ := sp_at t i (by omega)
    have hl : i < t.data.toList.length := by rw [size_list]; omega
    have hg : t.data.toList.getD i 0 = t.data.toList[i] := by rw [List.getD_eq_getElem?_getD, List.getElem?_eq_getElem hl]; rfl
    have hd : (t.data.toList.drop (sp t i).2).drop (i - (sp t i).2) = t.data.toList[i] :: t.data.toList.drop (i + 1) := by
      rw [List.drop_drop, show (sp t i).2 + (i - (sp t i).2) = i by omega, List.drop_eq_getElem_cons hl]
    unfold sp
    rw [hg]
    by_cases hc : t.data.toList[i] = 32
    · rw [if_pos (.inr hc)]
      refine ⟨Nat.le_refl _, ?_, by simp⟩
      have e : (t.extract (sp t i).2 i).data.toList = (t.data.toList.drop (sp t i).2).take (i - (sp t i).2) := by
        rw [← Lib.toList_data]
        have := ext_list t (sp t i).2 (i - (sp t i).2)
        rwa [show (sp t i).2 + (i - (sp t i).2) = i by omega] at this
      rw [h2, List.map_append, List.append_assoc]
      congr 1
      show _ = [(t.extract (sp t i).2 i).data.toList] ++ _
      rw [e]
      show _ = (t.data.toList.drop (sp t i).2).take (i - (sp t i).2) :: cuts 32 (t.data.toList.drop (i + 1))
      rw [← cuts_cut _ h3]
      have hz : (32 : UInt8) :: t.data.toList.drop (i + 1) = (t.data.toList.drop (sp t i).2).drop (i - (sp t i).2) := by rw [hd, hc]
      rw [hz, List.take_append_drop]
    · rw [if_neg (by intro h; rcases h with h | h; exact absurd h (by omega); exact hc h)]
      refine ⟨by omega, h2, fun hm => ?_⟩
      have e : (t.data.toList.drop (sp t i).2).take (i + 1 - (sp t i).2) = (t.data.toList.drop (sp t i).2).take (i - (sp t i).2) ++ [t.data.toList[i]] := by
        rw [show i + 1 - (sp t i).2 = (i - (sp t i).2) + 1 by omega, List.take_add_one]
        congr 1
        have h := congrArg List.head? hd
        rw [List.head?_drop] at h
        rw [h]
        rfl
      rw [e] at hm
      rcases List.mem_append.1 hm with h | h
      · exact h3 h
      · simp at h
        exact hc h.symm
theorem sp_end (t : ByteArray) : (sp t (t.size + 1)).1.map (fun t => t.data.toList) = cuts 32 t.data.toList := by
  obtain ⟨h1, h2, h3⟩ := sp_at t t.size (Nat.le_refl _)
  unfold sp
  rw [if_pos (.inl rfl), List.map_append, h2]
  congr 1
  have hz : (t.data.toList.drop (sp t t.size).2).take (t.size - (sp t t.size).2) = t.data.toList.drop (sp t t.size).2 := List.take_of_length_le (by rw [List.length_drop, size_list]; omega)
  rw [hz] at h3
  rw [cuts_free h3]
  have e : (t.extract (sp t t.size).2 t.size).data.toList = t.data.toList.drop (sp t t.size).2 := by
    rw [← Lib.toList_data]
    have := ext_list t (sp t t.size).2 (t.size - (sp t t.size).2)
    rw [show (sp t t.size).2 + (t.size - (sp t t.size).2) = t.size by omega, hz] at this
    exact this
  rw [List.map_cons, List.map_nil, e]
theorem sp_words {x : Jb} (h : checkJ x = 0) : (sp (textJ x) ((textJ x).size + 1)).1 = wordsJ x := map_inj (by rw [sp_end, cuts_job h])
theorem sp_len (t : ByteArray) : ∀ i, (sp t i).1.length ≤ i
  | 0 => Nat.le_refl _
  | i + 1 => by
    have := sp_len t i
    unfold sp
    split
    · rw [List.length_append]; simp; omega
    · omega
end Go.Proofs.YtbilkeadhflibaaGreatDoor.Job
