/- Queues by plain functions (chapter 14): who is ahead, who is put where, who goes, who stands at which place; what is right stays so; of no program. -/
import Derived.KernelRfl
namespace Go.Proofs.Ytimaehaaidjokaa.Queue

/-- Who waits: a number, a priority. -/
abbrev E := Nat × Int
def ahead (a b : E) : Bool := decide (b.2 < a.2) || (a.2 == b.2 && decide (a.1 < b.1))
theorem ahead_iff (a b : E) : ahead a b = true ↔ b.2 < a.2 ∨ (a.2 = b.2 ∧ a.1 < b.1) := by
  unfold ahead; simp
theorem ahead_not (a b : E) : ahead a b = false ↔ ¬ (b.2 < a.2 ∨ (a.2 = b.2 ∧ a.1 < b.1)) := by
  rw [← ahead_iff]; simp
theorem ahead_irrefl (a : E) : ahead a a = false := by rw [ahead_not]; omega
theorem ahead_asymm {a b : E} (h : ahead a b = true) : ahead b a = false := by
  rw [ahead_iff] at h; rw [ahead_not]; omega
theorem ahead_trans {a b c : E} (h : ahead a b = true) (g : ahead b c = true) : ahead a c = true := by
  rw [ahead_iff] at *; omega
theorem ahead_total {a b : E} (h : a ≠ b) : ahead a b = true ∨ ahead b a = true := by
  rw [ahead_iff, ahead_iff]
  obtain ⟨x, p⟩ := a
  obtain ⟨y, q⟩ := b
  simp only
  by_cases h1 : x = y
  · by_cases h2 : p = q
    · subst h1; subst h2; exact absurd rfl h
    · omega
  · omega

def has (q : List E) (i : Nat) : Bool := q.any (fun x => x.1 == i)
theorem has_iff {q : List E} {i : Nat} : has q i = true ↔ ∃ x ∈ q, x.1 = i := by
  unfold has; rw [List.any_eq_true]; simp
theorem has_not {q : List E} {i : Nat} : has q i = false ↔ ∀ x ∈ q, x.1 ≠ i := by
  constructor
  · intro h x hx e
    have : has q i = true := has_iff.2 ⟨x, hx, e⟩
    rw [this] at h; cases h
  · intro h
    cases hc : has q i
    · rfl
    · obtain ⟨x, hx, e⟩ := has_iff.1 hc
      exact absurd e (h x hx)
theorem has_cons (x : E) (q : List E) (i : Nat) : has (x :: q) i = (x.1 == i || has q i) := rfl

/-- One more, ahead of the first that it is ahead of. -/
def insL (e : E) : List E → List E
  | [] => [e]
  | x :: q => if ahead e x then e :: x :: q else x :: insL e q
theorem insL_length (e : E) : ∀ q : List E, (insL e q).length = q.length + 1
  | [] => rfl
  | x :: q => by
    unfold insL; split
    · rfl
    · rw [List.length_cons, insL_length e q, List.length_cons]
theorem mem_insL (e y : E) : ∀ q : List E, y ∈ insL e q ↔ y = e ∨ y ∈ q
  | [] => by unfold insL; simp
  | x :: q => by
    unfold insL; split
    · simp
    · rw [List.mem_cons, mem_insL e y q, List.mem_cons]
      constructor
      · rintro (h | h | h)
        · exact .inr (.inl h)
        · exact .inl h
        · exact .inr (.inr h)
      · rintro (h | h | h)
        · exact .inr (.inl h)
        · exact .inl h
        · exact .inr (.inr h)
/-- As the document puts it: what stands before the first that it is ahead of, it, the rest. -/
theorem insL_split (e : E) : ∀ q : List E, insL e q = q.takeWhile (fun x => !ahead e x) ++ e :: q.dropWhile (fun x => !ahead e x)
  | [] => rfl
  | x :: q => by
    unfold insL
    cases h : ahead e x
    · rw [if_neg (by simp), List.takeWhile_cons_of_pos (by simp [h]), List.dropWhile_cons_of_pos (by simp [h]), insL_split e q]; rfl
    · rw [if_pos rfl, List.takeWhile_cons_of_neg (by simp [h]), List.dropWhile_cons_of_neg (by simp [h])]; rfl
/-- At a place: what stands before is not behind it, what stands there is. -/
theorem insL_at (e : E) : ∀ (q : List E) (k : Nat), k ≤ q.length → (∀ j x, j < k → q[j]? = some x → ahead e x = false) →
    (∀ x, q[k]? = some x → ahead e x = true) → insL e q = q.take k ++ e :: q.drop k
  | [], k, hk, _, _ => by
    have : k = 0 := by simpa using hk
    subst this; rfl
  | x :: q, 0, _, _, h2 => by
    unfold insL; rw [if_pos (h2 x rfl)]; rfl
  | x :: q, k + 1, hk, h1, h2 => by
    unfold insL
    rw [if_neg (by rw [h1 0 x (by omega) rfl]; simp), insL_at e q k (by simpa using hk) (fun j y hj hy => h1 (j + 1) y (by omega) (by simpa using hy)) (fun y hy => h2 y (by simpa using hy))]
    rfl

/-- Push: who waits then, and the error's number. -/
def pushL (q : List E) (e : E) : List E × Nat :=
  if e.2 < 0 ∨ 9 < e.2 then (q, 1) else if has q e.1 then (q, 8) else if 32 ≤ q.length then (q, 9) else (insL e q, 0)
/-- Without the first of that number. -/
def remL (i : Nat) : List E → List E
  | [] => []
  | x :: q => if x.1 == i then q else x :: remL i q
def takeL (q : List E) (i : Nat) : List E × Bool := if has q i then (remL i q, true) else (q, false)
/-- The place of the first of that number; how many there are, if there is none. -/
def placeN (q : List E) (i : Nat) : Nat := q.findIdx (fun x => x.1 == i)
def placeL (q : List E) (i : Nat) : Int := if has q i then (placeN q i : Int) else -1

/-- Right: few, each priority in reach, each ahead of all behind, no number twice. -/
structure Right (q : List E) : Prop where
  few : q.length ≤ 32
  prios : ∀ x ∈ q, 0 ≤ x.2 ∧ x.2 ≤ 9
  ahead : q.Pairwise (fun x y => ahead x y = true)
  once : q.Pairwise (fun x y => x.1 ≠ y.1)
theorem right_nil : Right [] := ⟨Nat.zero_le _, by simp, List.Pairwise.nil, List.Pairwise.nil⟩
theorem Right.tail {x : E} {q : List E} (h : Right (x :: q)) : Right q :=
  ⟨by have := h.few; rw [List.length_cons] at this; omega, fun y hy => h.prios y (List.mem_cons_of_mem _ hy), (List.pairwise_cons.1 h.ahead).2, (List.pairwise_cons.1 h.once).2⟩
/-- Neighbours are enough. -/
theorem pairwise_next (q : List E) (h : ∀ j x y, q[j]? = some x → q[j + 1]? = some y → ahead x y = true) : q.Pairwise (fun x y => ahead x y = true) := by
  induction q with
  | nil => exact List.Pairwise.nil
  | cons a q ih =>
    have h' := ih (fun j x y hx hy => h (j + 1) x y (by simpa using hx) (by simpa using hy))
    refine List.pairwise_cons.2 ⟨?_, h'⟩
    intro y hy
    cases q with
    | nil => cases hy
    | cons b r =>
      have h0 : Queue.ahead a b = true := h 0 a b rfl rfl
      rcases List.mem_cons.1 hy with e | hy
      · rw [e]; exact h0
      · exact ahead_trans h0 ((List.pairwise_cons.1 h').1 y hy)
theorem pairwise_get {R : E → E → Prop} {q : List E} (h : q.Pairwise R) {i k : Nat} {x y : E} (hik : i < k) (hx : q[i]? = some x) (hy : q[k]? = some y) : R x y := by
  obtain ⟨h1, e1⟩ := List.getElem?_eq_some_iff.1 hx
  obtain ⟨h2, e2⟩ := List.getElem?_eq_some_iff.1 hy
  rw [← e1, ← e2]
  exact List.pairwise_iff_getElem.1 h i k h1 h2 hik

theorem ins_right {q : List E} {e : E} (h : Right q) (h1 : 0 ≤ e.2 ∧ e.2 ≤ 9) (h2 : has q e.1 = false) (h3 : q.length < 32) : Right (insL e q) := by
  refine ⟨by rw [insL_length]; omega, ?_, ?_, ?_⟩
  · intro x hx
    rcases (mem_insL e x q).1 hx with e | hx
    · rw [e]; exact h1
    · exact h.prios x hx
  · have hn := has_not.1 h2
    have ha := h.ahead
    clear h1 h2 h3 h
    induction q with
    | nil => exact List.pairwise_singleton _ _
    | cons x q ih =>
      unfold insL
      obtain ⟨g1, g2⟩ := List.pairwise_cons.1 ha
      split
      · rename_i hc
        refine List.pairwise_cons.2 ⟨?_, ha⟩
        intro y hy
        rcases List.mem_cons.1 hy with he | hy
        · rw [he]; exact hc
        · exact ahead_trans hc (g1 y hy)
      · rename_i hc
        refine List.pairwise_cons.2 ⟨?_, ih (fun y hy => hn y (List.mem_cons_of_mem _ hy)) g2⟩
        intro y hy
        rcases (mem_insL _ _ _).1 hy with he | hy
        · rw [he]
          rcases ahead_total (fun he => hn x (List.mem_cons_self ..) (congrArg Prod.fst he)) with h | h
          · exact h
          · rw [h] at hc; exact absurd rfl hc
        · exact g1 y hy
  · have hn := has_not.1 h2
    have ha := h.once
    clear h1 h2 h3 h
    induction q with
    | nil => exact List.pairwise_singleton _ _
    | cons x q ih =>
      unfold insL
      obtain ⟨g1, g2⟩ := List.pairwise_cons.1 ha
      split
      · refine List.pairwise_cons.2 ⟨?_, ha⟩
        intro y hy
        exact (hn y hy).symm
      · refine List.pairwise_cons.2 ⟨?_, ih (fun y hy => hn y (List.mem_cons_of_mem _ hy)) g2⟩
        intro y hy
        rcases (mem_insL _ _ _).1 hy with e | hy
        · rw [e]; exact hn x (List.mem_cons_self ..)
        · exact g1 y hy
theorem push_right {q : List E} (e : E) (h : Right q) : Right (pushL q e).1 := by
  unfold pushL
  split
  · exact h
  · rename_i h1
    split
    · exact h
    · rename_i h2
      split
      · exact h
      · exact ins_right h (by omega) (by simpa using h2) (by omega)
theorem mem_remL {i : Nat} {x : E} : ∀ {q : List E}, x ∈ remL i q → x ∈ q
  | [], h => h
  | y :: q, h => by
    unfold remL at h
    split at h
    · exact List.mem_cons_of_mem _ h
    · rcases List.mem_cons.1 h with e | h
      · rw [e]; exact List.mem_cons_self ..
      · exact List.mem_cons_of_mem _ (mem_remL h)
theorem remL_length (i : Nat) : ∀ q : List E, has q i = true → (remL i q).length + 1 = q.length
  | [], h => by cases h
  | y :: q, h => by
    unfold remL
    split
    · rfl
    · rename_i hc
      rw [has_cons] at h
      have h' : has q i = true := by
        cases hy : (y.1 == i)
        · rw [hy] at h; exact h
        · exact absurd hy hc
      rw [List.length_cons, remL_length i q h', List.length_cons]
theorem remL_le (i : Nat) (q : List E) : (remL i q).length ≤ q.length := by
  induction q with
  | nil => exact Nat.le_refl _
  | cons y q ih => unfold remL; split <;> simp <;> omega
theorem rem_right {q : List E} (i : Nat) (h : Right q) : Right (remL i q) := by
  refine ⟨Nat.le_trans (remL_le i q) h.few, fun x hx => h.prios x (mem_remL hx), ?_, ?_⟩
  · have ha := h.ahead; clear h
    induction q with
    | nil => exact ha
    | cons y q ih =>
      obtain ⟨g1, g2⟩ := List.pairwise_cons.1 ha
      unfold remL; split
      · exact g2
      · exact List.pairwise_cons.2 ⟨fun z hz => g1 z (mem_remL hz), ih g2⟩
  · have ha := h.once; clear h
    induction q with
    | nil => exact ha
    | cons y q ih =>
      obtain ⟨g1, g2⟩ := List.pairwise_cons.1 ha
      unfold remL; split
      · exact g2
      · exact List.pairwise_cons.2 ⟨fun z hz => g1 z (mem_remL hz), ih g2⟩
theorem take_right {q : List E} (i : Nat) (h : Right q) : Right (takeL q i).1 := by
  unfold takeL; split
  · exact rem_right i h
  · exact h
/-- The queue of which these were pushed, onto one. -/
def pushedL (q : List E) (l : List E) : List E := l.foldl (fun q e => (pushL q e).1) q
theorem pushed_right {q : List E} (h : Right q) (l : List E) : Right (pushedL q l) := by
  induction l generalizing q with
  | nil => exact h
  | cons e l ih => exact ih (push_right e h)
theorem pushedL_snoc (q l : List E) (e : E) : pushedL q (l ++ [e]) = (pushL (pushedL q l) e).1 := by
  unfold pushedL; rw [List.foldl_append]; rfl
theorem pushedL_take {q l : List E} {k : Nat} {e : E} (h : l[k]? = some e) : pushedL q (l.take (k + 1)) = (pushL (pushedL q (l.take k)) e).1 := by
  rw [List.take_add_one, h, Option.toList, pushedL_snoc]
def goneL (q : List E) (g : List Nat) : List E := g.foldl (fun q i => (takeL q i).1) q
theorem gone_right {q : List E} (h : Right q) (g : List Nat) : Right (goneL q g) := by
  induction g generalizing q with
  | nil => exact h
  | cons e l ih => exact ih (take_right e h)
theorem goneL_take {q : List E} {g : List Nat} {k i : Nat} (h : g[k]? = some i) : goneL q (g.take (k + 1)) = (takeL (goneL q (g.take k)) i).1 := by
  unfold goneL; rw [List.take_add_one, h, Option.toList, List.foldl_append]; rfl

/-- P14.1: of two that wait the one that is ahead stands ahead. -/
theorem Right.order {q : List E} (h : Right q) {i k : Nat} {x y : E} (hx : q[i]? = some x) (hy : q[k]? = some y) : Queue.ahead x y = decide (i < k) := by
  by_cases h1 : i < k
  · rw [decide_eq_true h1]; exact pairwise_get h.ahead h1 hx hy
  · rw [decide_eq_false h1]
    by_cases h2 : i = k
    · subst h2; rw [hx] at hy; cases hy; exact ahead_irrefl _
    · exact ahead_asymm (pairwise_get h.ahead (by omega) hy hx)
theorem placeN_le (q : List E) (i : Nat) : placeN q i ≤ q.length := List.findIdx_le_length
/-- Each stands at its place. -/
theorem Right.place {q : List E} (h : Right q) {i : Nat} {x : E} (hx : q[i]? = some x) : placeL q x.1 = (i : Int) := by
  have hm : x ∈ q := List.mem_of_getElem? hx
  unfold placeL
  rw [if_pos (has_iff.2 ⟨x, hm, rfl⟩)]
  have hw := h.once
  clear h hm
  have : placeN q x.1 = i := by
    induction q generalizing i with
    | nil => cases hx
    | cons y q ih =>
      unfold placeN
      rw [List.findIdx_cons]
      cases i with
      | zero =>
        have : y = x := by simpa using hx
        subst this; simp
      | succ i =>
        have hx' : q[i]? = some x := by simpa using hx
        obtain ⟨g1, g2⟩ := List.pairwise_cons.1 hw
        have hne : (y.1 == x.1) = false := by rw [beq_eq_false_iff_ne]; exact g1 x (List.mem_of_getElem? hx')
        rw [hne]
        have := ih hx' g2
        unfold placeN at this
        simp only [cond_false]
        omega
  omega
theorem place_none {q : List E} {i : Nat} (h : has q i = false) : placeL q i = -1 := by
  unfold placeL; rw [h]; rfl

theorem remL_none {i : Nat} : ∀ {q : List E}, has q i = false → remL i q = q
  | [], _ => rfl
  | x :: q, h => by
    rw [has_cons, Bool.or_eq_false_iff] at h
    unfold remL; rw [h.1, remL_none h.2]; rfl
/-- Who goes, and comes back, stands where they stood. -/
theorem Right.comes {q : List E} (h : Right q) {x : E} (hx : x ∈ q) : insL x (remL x.1 q) = q := by
  have ha := h.ahead; have ho := h.once; clear h
  induction q with
  | nil => cases hx
  | cons y q ih =>
    obtain ⟨a1, a2⟩ := List.pairwise_cons.1 ha
    obtain ⟨o1, o2⟩ := List.pairwise_cons.1 ho
    unfold remL
    rcases List.mem_cons.1 hx with e | hx
    · subst e
      rw [if_pos (by simp)]
      cases q with
      | nil => rfl
      | cons z r => unfold insL; rw [if_pos (a1 z (List.mem_cons_self ..))]
    · rw [if_neg (by simpa using o1 x hx)]
      unfold insL
      rw [if_neg (by rw [ahead_asymm (a1 x hx)]; simp), ih hx a2 o2]
theorem Right.rem_has {q : List E} (h : Right q) (i : Nat) : has (remL i q) i = false := by
  have ho := h.once; clear h
  induction q with
  | nil => rfl
  | cons y q ih =>
    obtain ⟨o1, o2⟩ := List.pairwise_cons.1 ho
    unfold remL
    split
    · rename_i hc
      rw [has_not]
      intro x hx
      have : y.1 = i := by simpa using hc
      rw [← this]; exact (o1 x hx).symm
    · rename_i hc
      rw [has_cons, ih o2, Bool.or_false]
      simpa using hc
theorem Right.push_back {q : List E} (h : Right q) {x : E} (hx : x ∈ q) : takeL q x.1 = (remL x.1 q, true) ∧ pushL (remL x.1 q) x = (q, 0) ∧ (remL x.1 q).length + 1 = q.length ∧ placeL (remL x.1 q) x.1 = -1 := by
  have h1 : has q x.1 = true := has_iff.2 ⟨x, hx, rfl⟩
  have h2 := remL_length x.1 q h1
  have h3 := h.rem_has x.1
  refine ⟨by unfold takeL; rw [h1]; rfl, ?_, h2, place_none h3⟩
  unfold pushL
  have := h.prios x hx
  have := h.few
  rw [if_neg (by omega), h3, if_neg (by simp), if_neg (by omega), h.comes hx]
/-- One that is ahead of all is pushed to the head. -/
theorem Right.push_head {x : E} {q : List E} (h : Right (x :: q)) : pushL q x = (x :: q, 0) := by
  obtain ⟨o1, o2⟩ := List.pairwise_cons.1 h.once
  obtain ⟨a1, a2⟩ := List.pairwise_cons.1 h.ahead
  have hp := h.prios x (List.mem_cons_self ..)
  have hf := h.few
  rw [List.length_cons] at hf
  unfold pushL
  rw [if_neg (by omega), has_not.2 (fun y hy => (o1 y hy).symm), if_neg (by simp), if_neg (by omega)]
  cases q with
  | nil => rfl
  | cons z r => unfold insL; rw [if_pos (a1 z (List.mem_cons_self ..))]
theorem Right.drop {q : List E} (h : Right q) : ∀ k, Right (q.drop k)
  | 0 => h
  | k + 1 => by
    rw [List.drop_add_one_eq_tail_drop]
    have := h.drop k
    cases hc : q.drop k with
    | nil => exact right_nil
    | cons x r => rw [hc] at this; exact this.tail
/-- Who comes in the other order stands in the same: round by round, from the last one on. -/
theorem Right.turned {q : List E} (h : Right q) {k : Nat} {x : E} (hx : q[k]? = some x) : pushL (q.drop (k + 1)) x = (q.drop k, 0) := by
  obtain ⟨hk, e⟩ := List.getElem?_eq_some_iff.1 hx
  have := h.drop k
  rw [List.drop_eq_getElem_cons hk, e] at this ⊢
  exact this.push_head

/-- P14.2: whether it is there, and where: as a loop meets it that keeps the last one. -/
def metL (q : List E) (i : Nat) (k : Nat) : Int := (q.take k).foldl (fun (m : Int × Int) x => (m.1 + 1, if x.1 = i then m.1 else m.2)) (0, -1) |>.2
theorem metL_fst (q : List E) (i : Nat) : ((q.foldl (fun (m : Int × Int) x => (m.1 + 1, if x.1 = i then m.1 else m.2)) (0, -1)).1) = (q.length : Int) := by
  have : ∀ (q : List E) (m : Int × Int), ((q.foldl (fun (m : Int × Int) x => (m.1 + 1, if x.1 = i then m.1 else m.2)) m).1) = m.1 + (q.length : Int) := by
    intro q
    induction q with
    | nil => intro m; simp
    | cons x q ih => intro m; rw [List.foldl_cons, ih]; simp; omega
  rw [this]; simp
theorem metL_zero (q : List E) (i : Nat) : metL q i 0 = -1 := rfl
theorem metL_step {q : List E} {i k : Nat} {x : E} (h : q[k]? = some x) : metL q i (k + 1) = if x.1 = i then (k : Int) else metL q i k := by
  obtain ⟨hk, _⟩ := List.getElem?_eq_some_iff.1 h
  unfold metL
  rw [List.take_add_one, h, Option.toList, List.foldl_append, List.foldl_cons, List.foldl_nil]
  simp only
  rw [metL_fst, List.length_take, Nat.min_eq_left (by omega)]
theorem Right.met {q : List E} (h : Right q) (i : Nat) : ∀ k, k ≤ q.length → (metL q i k = -1 ∧ ∀ j x, j < k → q[j]? = some x → x.1 ≠ i) ∨ (∃ j x, j < k ∧ q[j]? = some x ∧ x.1 = i ∧ metL q i k = (j : Int))
  | 0, _ => .inl ⟨rfl, fun j x hj => absurd hj (by omega)⟩
  | k + 1, hk => by
    obtain ⟨x, hx⟩ : ∃ x, q[k]? = some x := ⟨_, List.getElem?_eq_getElem (by omega)⟩
    rw [metL_step hx]
    by_cases hc : x.1 = i
    · right; exact ⟨k, x, by omega, hx, hc, if_pos hc⟩
    · rw [if_neg hc]
      rcases h.met i k (by omega) with ⟨h1, h2⟩ | ⟨j, y, hj, hy, h1, h2⟩
      · left
        refine ⟨h1, fun j y hj hy => ?_⟩
        by_cases hjk : j = k
        · subst hjk; rw [hx] at hy; cases hy; exact hc
        · exact h2 j y (by omega) hy
      · right; exact ⟨j, y, by omega, hy, h1, h2⟩
theorem Right.met_place {q : List E} (h : Right q) (i : Nat) : placeL q i = metL q i q.length ∧ has q i = decide (0 ≤ metL q i q.length) := by
  rcases h.met i q.length (Nat.le_refl _) with ⟨h1, h2⟩ | ⟨j, x, hj, hx, h1, h2⟩
  · have hn : has q i = false := by
      rw [has_not]
      intro x hx e
      obtain ⟨j, hj, e'⟩ := List.getElem_of_mem hx
      exact h2 j x hj (by rw [← e']; exact List.getElem?_eq_getElem hj) e
    rw [place_none hn, h1, hn]; exact ⟨rfl, rfl⟩
  · rw [← h1, h.place hx, h1, h2, ← h1]
    refine ⟨rfl, ?_⟩
    rw [has_iff.2 ⟨x, List.mem_of_getElem? hx, rfl⟩]
    simp

/-- P14.1: thirty-two may wait: the queue of which so many were pushed. -/
def fullE (i : Nat) : E := (i * 3, ((i % 10 : Nat) : Int))
def fullL (n : Nat) : List E := pushedL [] ((List.range n).map fullE)
theorem fullL_succ (n : Nat) : fullL (n + 1) = (pushL (fullL n) (fullE n)).1 := by
  unfold fullL; rw [List.range_succ, List.map_append, List.map_cons, List.map_nil, pushedL_snoc]
theorem fullL_right (n : Nat) : Right (fullL n) := pushed_right right_nil _
theorem full_spec : ∀ n, (fullL n).length = min n 32 ∧ (∀ i, has (fullL n) i = decide (i % 3 = 0 ∧ i / 3 < min n 32)) ∧
    pushL (fullL n) (fullE n) = (if n < 32 then (insL (fullE n) (fullL n), 0) else (fullL n, 9)) := by
    intro n
    have key : ∀ n, ((fullL n).length = min n 32 ∧ (∀ i, has (fullL n) i = decide (i % 3 = 0 ∧ i / 3 < min n 32))) →
        pushL (fullL n) (fullE n) = (if n < 32 then (insL (fullE n) (fullL n), 0) else (fullL n, 9)) := by
      intro n ⟨h1, h2⟩
      unfold pushL
      have hp : ¬ ((fullE n).2 < 0 ∨ 9 < (fullE n).2) := by unfold fullE; simp only; omega
      rw [if_neg hp, h2, if_neg (by unfold fullE; simp; omega), h1]
      by_cases h : n < 32
      · rw [if_neg (by omega), if_pos h]
      · rw [if_pos (by omega), if_neg h]
    induction n with
    | zero => exact ⟨rfl, fun i => by simp [fullL, pushedL, has], key 0 ⟨rfl, fun i => by simp [fullL, pushedL, has]⟩⟩
    | succ n ih =>
      obtain ⟨h1, h2, h3⟩ := ih
      have g : (fullL (n + 1)).length = min (n + 1) 32 ∧ (∀ i, has (fullL (n + 1)) i = decide (i % 3 = 0 ∧ i / 3 < min (n + 1) 32)) := by
        rw [fullL_succ, h3]
        by_cases h : n < 32
        · rw [if_pos h]
          refine ⟨by rw [insL_length, h1]; omega, fun i => ?_⟩
          have : has (insL (fullE n) (fullL n)) i = ((fullE n).1 == i || has (fullL n) i) := by
            rw [Bool.eq_iff_iff, Bool.or_eq_true, has_iff, has_iff, beq_iff_eq]
            constructor
            · rintro ⟨x, hx, e⟩
              rcases (mem_insL _ _ _).1 hx with e' | hx
              · left; rw [← e', e]
              · right; exact ⟨x, hx, e⟩
            · rintro (e | ⟨x, hx, e⟩)
              · exact ⟨_, (mem_insL _ _ _).2 (.inl rfl), e⟩
              · exact ⟨x, (mem_insL _ _ _).2 (.inr hx), e⟩
          rw [this, h2]
          show (n * 3 == i || _) = _
          rw [Bool.eq_iff_iff, Bool.or_eq_true, beq_iff_eq, decide_eq_true_eq, decide_eq_true_eq]
          omega
        · rw [if_neg h]
          refine ⟨by rw [h1]; omega, fun i => ?_⟩
          rw [h2]; congr 1
          have e1 : min n 32 = 32 := by omega
          have e2 : min (n + 1) 32 = 32 := by omega
          rw [e1, e2]
      exact ⟨g.1, g.2, key (n + 1) g⟩
/-- What a push answers, in the words of P14.1, and how long the queue is then. -/
theorem push_says (q : List E) (e : E) : (pushL q e).2 = (if e.2 < 0 ∨ 9 < e.2 then 1 else if has q e.1 = true then 8 else if 32 ≤ q.length then 9 else 0) ∧
    ((pushL q e).2 = 0 → (pushL q e).1.length = q.length + 1) ∧ ((pushL q e).2 ≠ 0 → (pushL q e).1 = q) := by
  unfold pushL
  split
  · exact ⟨rfl, fun h => absurd h (by simp), fun _ => rfl⟩
  · split
    · exact ⟨rfl, fun h => absurd h (by simp), fun _ => rfl⟩
    · split
      · exact ⟨rfl, fun h => absurd h (by simp), fun _ => rfl⟩
      · exact ⟨rfl, fun _ => insL_length _ _, fun h => absurd rfl h⟩

/-- Right, as a program asks it: few, priorities in reach, neighbours, each at its place. -/
theorem right_iff (q : List E) : Right q ↔ q.length ≤ 32 ∧ (∀ x ∈ q, 0 ≤ x.2 ∧ x.2 ≤ 9) ∧
    (∀ j x y, q[j]? = some x → q[j + 1]? = some y → ahead x y = true) ∧ (∀ (j : Nat) (x : E), q[j]? = some x → placeL q x.1 = (j : Int)) := by
  constructor
  · intro h
    exact ⟨h.few, h.prios, fun j x y hx hy => pairwise_get h.ahead (Nat.lt_succ_self j) hx hy, fun j x hx => h.place hx⟩
  · rintro ⟨h1, h2, h3, h4⟩
    refine ⟨h1, h2, pairwise_next q h3, ?_⟩
    rw [List.pairwise_iff_getElem]
    intro i j hi hj hij e
    have a := h4 i _ (List.getElem?_eq_getElem hi)
    have b := h4 j _ (List.getElem?_eq_getElem hj)
    rw [e, b] at a
    omega
end Go.Proofs.Ytimaehaaidjokaa.Queue
