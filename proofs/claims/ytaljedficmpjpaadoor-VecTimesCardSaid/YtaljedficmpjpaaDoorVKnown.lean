/- What strings.Join and strconv.ParseUint do for vec, by the library's own contracts; what Text and Parse answer of small amounts. -/
import Derived.Test.YtaljedficmpjpaaDoorVShelf
import Derived.Test.YtaljedficmpjpaaDoorVParse
namespace Go.Proofs.YtaljedficmpjpaaDoor.Vec
open Go.RowKit Go.Proofs.YtaljedficmpjpaaDoor.Wire

theorem join_length (d : Nat → ByteArray) (h : ∀ k, k < 4 → (d k).size ≤ 20) : (Lib.join ([d 0, d 1, d 2, d 3].map (·.data.toList)) [58]).length ≤ 140737488355328 := by
  have h0 := h 0 (by omega)
  have h1 := h 1 (by omega)
  have h2 := h 2 (by omega)
  have h3 := h 3 (by omega)
  rw [← size_list] at h0 h1 h2 h3
  simp [Lib.join, List.intercalate]
  simp at h0 h1 h2 h3
  omega

theorem joins4 : Joins4 := by
  intro d B c w h hB hc
  exact Any.strings_Join Laid.lays156 Laid.Builder_Extra_156 B 0 c [d 0, d 1, d 2, d 3] ⟨#[58]⟩ w (fun j x hj => by
    have hj4 : j < 4 := by
      have := (List.getElem?_eq_some_iff.1 hj).1
      simpa using this
    have : j = 0 ∨ j = 1 ∨ j = 2 ∨ j = 3 := by omega
    rw [Nat.zero_add]
    rcases this with rfl | rfl | rfl | rfl <;> (simp at hj; subst hj; exact (h _ hj4).1)) hB (by simp) (by simpa using hc) (join_length d fun k hk => (h k hk).2)

theorem reads_of (s : ByteArray) (hs : s.size ≤ 9223372036854775806) (u : Nat) (h : Lib.parseUintB 64 s.data.toList = .ok u) : Reads s u := fun w => by
  refine (Any.strconv_ParseUint_10_at64_ok Laid.laysPu14 s hs u h w).mono ?_
  rintro e w' ⟨rfl, h | h⟩
  · exact ⟨rfl, by rw [h]; exact Below.refl _ _⟩
  · exact ⟨rfl, by rw [h]; exact Lib.bytesWorld_below _ _ _⟩

/-- Four things by their places. -/
def of4 {α : Type} (a b c d : α) : Nat → α
  | 0 => a
  | 1 => b
  | 2 => c
  | _ => d
theorem of4_lt {x y z u : Nat} {k : Nat} {p : Nat → Prop} (h0 : p x) (h1 : p y) (h2 : p z) (h3 : p u) (hk : k < 4) : p (of4 x y z u k) := by
  have : k = 0 ∨ k = 1 ∨ k = 2 ∨ k = 3 := by omega
  rcases this with rfl | rfl | rfl | rfl
  · exact h0
  · exact h1
  · exact h2
  · exact h3
theorem digit_size (x : Nat) : (digit x).size = 1 := rfl
theorem reads_digit (x : Nat) (hx : x < 10) : Reads (digit x) x := by
  refine reads_of (digit x) (by rw [digit_size]; omega) x ?_
  have h : x = 0 ∨ x = 1 ∨ x = 2 ∨ x = 3 ∨ x = 4 ∨ x = 5 ∨ x = 6 ∨ x = 7 ∨ x = 8 ∨ x = 9 := by omega
  rcases h with rfl | rfl | rfl | rfl | rfl | rfl | rfl | rfl | rfl | rfl <;> rfl

/-- Text of four digits. -/
theorem text_small (x : Nat → Nat) (hx : ∀ k, k < 4 → x k < 10) (w : World) :
    Calls Tryd.prog 18 #[vec (x 0) (x 1) (x 2) (x 3)] w fun e w' => e = .returned (.string (joined fun k => digit (x k))) ∧ Below w.heap.size w w' :=
  text_of joins4 (fun k => (x k : Int)) (fun k => digit (x k)) (fun k hk => shows_digit (x k) (hx k hk)) (fun k _ => by rw [digit_size]; omega) w

theorem text_ex (w : World) : Calls Tryd.prog 18 #[vec 2 3 0 0] w fun e w' => e = .returned (.string ⟨#[50, 58, 51, 58, 48, 58, 48]⟩) ∧ Below w.heap.size w w' :=
  text_small (of4 2 3 0 0) (fun k hk => of4_lt (p := (· < 10)) (by omega) (by omega) (by omega) (by omega) hk) w

theorem parse_ex (w : World) : Calls Tryd.prog 15 #[.string ⟨#[53, 58, 57, 58, 48, 58, 48]⟩] w fun e w' => e = .returned (.tuple #[vec 5 9 0 0, .bool true]) ∧ Below w.heap.size w w' := by
  have hx : ∀ k, k < 4 → of4 5 9 0 0 k < 10 := fun k hk => of4_lt (p := (· < 10)) (by omega) (by omega) (by omega) (by omega) hk
  exact parse_of joins4 ⟨#[53, 58, 57, 58, 48, 58, 48]⟩ (by decide) 5 rfl (fun k => digit (of4 5 9 0 0 k)) (by decide) (fun k => ((of4 5 9 0 0 k : Nat) : Int)) (fun k hk => reads_digit _ (hx k hk)) (fun k hk => shows_digit _ (hx k hk))
    (fun k _ => by rw [digit_size]; omega) rfl w
end Go.Proofs.YtaljedficmpjpaaDoor.Vec
