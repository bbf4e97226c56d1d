/- The chapter's examples are as demesnelaw09.examples asks. -/
import Derived.Test.YtoomanlonhnleaaDExam
namespace Go.Proofs.Ytoomanlonhnleaa.Disk
open Go.RowKit

def exD : Dk := ⟨9, ⟨⟨#[]⟩, ⟨#[97, 98, 99]⟩⟩, ⟨⟨#[]⟩, ⟨#[]⟩⟩, false, -1, 0⟩
def exC : Dk := ⟨9, ⟨⟨#[97, 98]⟩, ⟨#[]⟩⟩, ⟨⟨#[]⟩, ⟨#[]⟩⟩, true, -1, 0⟩
def exS : Dk := ⟨9, ⟨⟨#[97, 98, 99]⟩, ⟨#[]⟩⟩, ⟨⟨#[]⟩, ⟨#[]⟩⟩, false, -1, 0⟩
def exA : Dk := ⟨9, ⟨⟨#[97, 98, 99]⟩, ⟨#[]⟩⟩, ⟨⟨#[]⟩, ⟨#[]⟩⟩, false, 0, 1⟩
def exB : Dk := ⟨9, ⟨⟨#[97, 98, 99, 100]⟩, ⟨#[]⟩⟩, ⟨⟨#[]⟩, ⟨#[]⟩⟩, true, -1, 1⟩
def exX : Dk := ⟨9, ⟨⟨#[97]⟩, ⟨#[]⟩⟩, ⟨⟨#[]⟩, ⟨#[]⟩⟩, false, -1, 0⟩
theorem x2 : write (new 9) 0 ⟨#[97, 98, 99]⟩ = (exD, 0) := by kernel_rfl
theorem x3 : crash exD 2 = exC := by kernel_rfl
theorem x4 : sync exD 0 = (exS, 0) := by kernel_rfl
theorem x5 : write exD 1 ⟨#[49, 50, 51, 52, 53, 54, 55]⟩ = (exD, 9) := by kernel_rfl
theorem x6 : write exC 0 ⟨#[120]⟩ = (exC, 12) := by kernel_rfl
theorem x7 : arm exS 0 1 = exA := by kernel_rfl
theorem x8 : write exA 0 ⟨#[100, 101]⟩ = (exB, 12) := by kernel_rfl
theorem x9 : cut exS 0 1 = (exX, 0) := by kernel_rfl
theorem x10 : sync exD 2 = (exD, 1) := by kernel_rfl
theorem x11 : read exC 0 = ⟨#[97, 98]⟩ := by kernel_rfl
theorem x12 : read exB 0 = ⟨#[97, 98, 99, 100]⟩ := by kernel_rfl
theorem x13 : read exX 0 = ⟨#[97]⟩ := by kernel_rfl
theorem x14 : used exD = 3 := by kernel_rfl
theorem fair_of {d : Dk} (h0 : d.size = 9) (h1 : d.fuse = -1 ∨ d.fuse = 0) (h2 : d.keep = 0 ∨ d.keep = 1) : d.Fair := by
  constructor <;> omega
theorem examples_any (w : World) : Calls Try.prog 8 #[] w fun e w' => e = .returned (.bool true) ∧ Below w.heap.size w w' := by
  have fN : (new 9).Fair := fair_of rfl (.inl rfl) (.inl rfl)
  have fD : exD.Fair := fair_of rfl (.inl rfl) (.inl rfl)
  have fC : exC.Fair := fair_of rfl (.inl rfl) (.inl rfl)
  have fS : exS.Fair := fair_of rfl (.inl rfl) (.inl rfl)
  have fA : exA.Fair := fair_of rfl (.inr rfl) (.inr rfl)
  have u0 : used (new 9) = 0 := by kernel_rfl
  have uC : used exC = 2 := by kernel_rfl
  have uS : used exS = 3 := by kernel_rfl
  have uA : used exA = 3 := by kernel_rfl
  have uB : used exB = 4 := by kernel_rfl
  have uX : used exX = 1 := by kernel_rfl
  have ex_used : ∀ {d : Dk} {n : Nat}, used d = n → n ≤ 9 → used d ≤ 4611686018427387904 := fun h k => by omega
  have lit : ∀ {s : ByteArray} {n : Nat}, s.size = n → n ≤ 9 → s.size ≤ 9 := fun h k => by omega
  refine exam_walk (new 9) exD exC exS exA exB exX rfl rfl rfl rfl 9 ⟨#[97, 98]⟩ ⟨#[]⟩ ⟨#[]⟩ ⟨#[]⟩ (-1) 0 w (fun w => new_any 9 w) ?_ ?_ ?_ ?_ ?_ ?_ ?_ ?_ ?_ ?_ ?_ ?_ ?_ (fun w => start_any exC w)
  · intro w
    have := write_any (new 9) fN 0 ⟨#[97, 98, 99]⟩ (by rw [u0]; decide) w
    rw [x2] at this
    exact this
  · intro w
    have := crash_any exD (ex_used x14 (by decide)) 2 w
    rw [x3] at this
    exact this
  · intro w
    have := sync_any exD fD 0 (ex_used x14 (by decide)) w
    rw [x4] at this
    exact this
  · intro w
    have := write_any exD fD 1 ⟨#[49, 50, 51, 52, 53, 54, 55]⟩ (by rw [x14]; decide) w
    rw [x5] at this
    exact this
  · intro w
    have := write_any exC fC 0 ⟨#[120]⟩ (by rw [uC]; decide) w
    rw [x6] at this
    exact this
  · intro w
    have := arm_any exS 0 1 w
    rw [x7] at this
    exact this
  · intro w
    have := write_any exA fA 0 ⟨#[100, 101]⟩ (by rw [uA]; decide) w
    rw [x8] at this
    exact this
  · intro w
    have := cut_any exS fS 0 1 (by decide) (ex_used uS (by decide)) w
    rw [x9] at this
    exact this
  · intro w
    have := sync_any exD fD 2 (ex_used x14 (by decide)) w
    rw [x10] at this
    exact this
  · intro w
    have := read_any exC (ex_used uC (by decide)) 0 w
    rw [x11] at this
    exact this
  · intro w
    have := read_any exB (ex_used uB (by decide)) 0 w
    rw [x12] at this
    exact this
  · intro w
    have := read_any exX (ex_used uX (by decide)) 0 w
    rw [x13] at this
    exact this
  · intro w
    have := used_any exD (ex_used x14 (by decide)) w
    rw [x14] at this
    exact this
end Go.Proofs.Ytoomanlonhnleaa.Disk
