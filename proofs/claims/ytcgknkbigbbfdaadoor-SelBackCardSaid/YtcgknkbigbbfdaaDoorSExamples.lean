/- The chapter's examples, asked of the program: all are so; of memory that was there nothing turns. -/
import Derived.Test.YtcgknkbigbbfdaaDoorSGetL
namespace Go.Proofs.YtcgknkbigbbfdaaDoor.Sel
open Go.RowKit Go.Proofs.YtcgknkbigbbfdaaDoor.Texts Go.Proofs.YtcgknkbigbbfdaaDoor.Word Go.Proofs.YtcgknkbigbbfdaaDoor.Forms Go.Proofs.YtcgknkbigbbfdaaDoor.Boxes Go.Proofs.YtcgknkbigbbfdaaDoor.Label

/-- Pairs that are written out. -/
theorem row_new (w : World) (ls : List Pr) (T : TypeId) (hl : ls.length ≤ 100) : Row (w.alloc (.cells (ls.flatMap enc).toArray T)) (.slice (some ⟨w.heap.size, 0, none⟩) ls.length ls.length) ls := by
  by_cases h0 : ls = []
  · subst h0; exact .inl ⟨rfl, _, _, rfl, Nat.zero_le _⟩
  · refine .inr ⟨h0, w.heap.size, 0, ls.length, rfl, lt_of (fresh w _), Nat.le_refl _, by unfold maxLen; omega, fun j x hj => ?_⟩
    have hf : ∀ (ls : List Pr) (j : Nat) (x : Pr), ls[j]? = some x → (ls.flatMap enc)[j * 2]? = some (.string x.1) ∧ (ls.flatMap enc)[j * 2 + 1]? = some (.string x.2) := by
      intro ls
      induction ls with
      | nil => intro j x h; simp at h
      | cons a r ih =>
        intro j x h
        have e : (a :: r).flatMap enc = .string a.1 :: .string a.2 :: r.flatMap enc := rfl
        cases j with
        | zero => simp at h; subst h; exact ⟨rfl, rfl⟩
        | succ j =>
          obtain ⟨h1, h2⟩ := ih j x (by simpa using h)
          rw [e, show (j + 1) * 2 = j * 2 + 1 + 1 by omega]
          exact ⟨h1, h2⟩
    obtain ⟨h1, h2⟩ := hf ls j x hj
    rw [Nat.zero_add]
    exact ⟨cell_at (fresh w _) (by rw [List.getElem?_toArray]; exact h1), cell_at (fresh w _) (by rw [List.getElem?_toArray]; exact h2)⟩
theorem row_none (w : World) : Row w (.slice none 0 0) [] := .inl ⟨rfl, _, _, rfl, Nat.zero_le _⟩

def tZone : ByteArray := ⟨#[122, 111, 110, 101]⟩
def tDisk : ByteArray := ⟨#[100, 105, 115, 107]⟩
def tGpu : ByteArray := ⟨#[103, 112, 117]⟩
def one1 (c : UInt8) : ByteArray := ⟨#[c]⟩
/-- The chapter's selector. -/
def sample : List Tm := [(tZone, true, [one1 97, one1 98]), (tGpu, true, []), (tDisk, false, [])]
def sampleText : ByteArray := ⟨#[122, 111, 110, 101, 33, 61, 97, 124, 98, 44, 33, 103, 112, 117, 44, 100, 105, 115, 107]⟩
def wrongText : ByteArray := ⟨#[122, 111, 110, 101, 61, 98, 124, 97]⟩
theorem sample_right : rightS sample = true := by decide +kernel
theorem sample_text : textS sample = sampleText := by decide +kernel
theorem sample_parse : parseS sampleText = some sample := by rw [← sample_text]; exact parse_text sample_right
theorem wrong_parse : parseS wrongText = none := by decide +kernel
theorem fair_sample : Fair sample := by
  refine ⟨by decide, fun t ht => ?_⟩
  simp only [sample, List.mem_cons, List.not_mem_nil, or_false] at ht
  rcases ht with rfl | rfl | rfl
  · exact ⟨by decide, by decide, fun x hx => by simp only [List.mem_cons, List.not_mem_nil, or_false] at hx; rcases hx with rfl | rfl <;> decide⟩
  · exact ⟨by decide, by decide, fun x hx => by simp at hx⟩
  · exact ⟨by decide, by decide, fun x hx => by simp at hx⟩
theorem match_1 : matchS (findL [(tDisk, ⟨#[115, 115, 100]⟩), (tZone, one1 99)]) sample = true := by decide +kernel
theorem match_2 : matchS (findL [(tDisk, ⟨#[115, 115, 100]⟩), (tZone, one1 97)]) sample = false := by decide +kernel
theorem match_3 : matchS (findL [(tDisk, one1 120)]) sample = true := by decide +kernel
theorem put_1 : putS (sample.drop 2) = ⟨#[1, 4, 100, 105, 115, 107, 0]⟩ := by decide +kernel
theorem same_1 : decide (sample = sample.drop 1) = false := by decide +kernel
end Go.Proofs.YtcgknkbigbbfdaaDoor.Sel
