/- What vec.Text answers: the four amounts in digits, a colon between; here of amounts whose digits are known. -/
import Derived.Test.YtaljedficmpjpaaDoorVSplit
import Derived.Test.YtaljedficmpjpaaDoorVFour
import Derived.Lib.Join
namespace Go.Proofs.YtaljedficmpjpaaDoor.Vec
open Go.RowKit Go.Proofs.YtaljedficmpjpaaDoor.Wire

/-- What a number is shown as. -/
def Shows (x : Int) (s : ByteArray) : Prop := ∀ w, Calls Tryd.prog 38 #[.int .u64 x, .int .i64 10] w fun e w' => e = .returned (.string s) ∧ Below w.heap.size w w'

/-- One digit. -/
def digit (x : Nat) : ByteArray := str [UInt8.ofNat (48 + x)]

theorem digit_cut (x : Nat) (hx : x < 10) : ByteArray.extract ⟨#[48, 49, 50, 51, 52, 53, 54, 55, 56, 57, 97, 98, 99, 100, 101, 102, 103, 104, 105, 106, 107, 108, 109, 110, 111, 112, 113, 114, 115, 116, 117, 118, 119, 120, 121, 122]⟩ x (x + 1) = digit x := by
  have h : x = 0 ∨ x = 1 ∨ x = 2 ∨ x = 3 ∨ x = 4 ∨ x = 5 ∨ x = 6 ∨ x = 7 ∨ x = 8 ∨ x = 9 := by omega
  rcases h with rfl | rfl | rfl | rfl | rfl | rfl | rfl | rfl | rfl | rfl <;> decide

set_option maxRecDepth 100000 in
set_option maxHeartbeats 1000000 in
theorem small_any (x : Nat) (hx : x < 10) (w : World) : Calls Tryd.prog 63 #[.int .i64 x] w fun e w' => e = .returned (.string (digit x)) ∧ w = w' := by
  have HD := Lib.hid (digit_cut x hx)
  have hx' : (x : Int) < 10 := by omega
  have h0 : (0 : Int) ≤ (x : Int) := by omega
  have h1 : (x : Int) + 1 ≤ 36 := by omega
  go_enter Tryd.func63, Tryd.ntmps63
  go_wp2
  go_ret
  exact ⟨congrArg (fun s => Ending.returned (.string s)) HD.out, rfl⟩

set_option maxRecDepth 100000 in
set_option maxHeartbeats 1000000 in
theorem shows_digit (x : Nat) (hx : x < 10) : Shows x (digit x) := by
  intro w
  have hx' : (x : Int) < 100 := by omega
  have h0 : (0 : Int) ≤ (x : Int) := by omega
  have inner : ∀ w, Calls Tryd.prog 50 #[.int .u64 x, .int .i64 10] w fun e w' => e = .returned (.string (digit x)) ∧ w = w' := by
    intro w
    have HS := Lib.hid (small_any x hx)
    obtain ⟨d, hd⟩ : ∃ d, d = digit x := ⟨_, rfl⟩
    rw [← hd] at HS ⊢
    clear hd
    go_enter Tryd.func50, Tryd.ntmps50
    go_wp2_with (go_at_call 63; (with_reducible refine (HS.out _).mono ?_); rintro e w' ⟨rfl, rfl⟩)
    go_ret
    exact ⟨rfl, rfl⟩
  have HI := Lib.hid inner
  clear inner
  obtain ⟨d, hd⟩ : ∃ d, d = digit x := ⟨_, rfl⟩
  rw [← hd] at HI ⊢
  clear hd
  go_enter Tryd.func38, Tryd.ntmps38
  go_wp2_with (go_at_call 50; (with_reducible refine (HI.out _).mono ?_); rintro e w' ⟨rfl, rfl⟩)
  go_ret
  exact ⟨rfl, Below.refl _ _⟩

set_option maxRecDepth 100000 in
set_option maxHeartbeats 1000000 in
theorem text1 (T k : Nat) (hk : k < 4) (x : Int) (s : ByteArray) (st : Shows x s) (t0 t1 t2 t3 : Value) (wr : World) (ht : wr.heap[T]? = some (.cells #[t0, t1, t2, t3] 56)) :
    Calls Tryd.prog 37 #[.int .i64 k, .int .u64 x, .pointer (some ⟨T, 0, none⟩)] wr fun e w' => e = .returned (.bool true) ∧ ∃ w1, Below wr.heap.size wr w1 ∧ w' = w1.setCell ⟨T, k, none⟩ (.string s) := by
  have hlt : T < wr.heap.size := World.block_lt_of_cell? wr ⟨T, 0, none⟩ (cell_at ht rfl)
  have HS := Lib.hid st
  have HT := Lib.hid ht
  clear st ht
  have hk' : (k : Int) < 4 := by omega
  have hk0 : (0 : Int) ≤ (k : Int) := by omega
  go_enter Tryd.func37, Tryd.ntmps37
  go_wp2_with fail
  refine (HS.out _).mono ?_
  rintro e w1 ⟨rfl, hb⟩
  have ht := (hb.block T hlt).trans HT.out
  have c : ∃ u, w1.cell? ⟨T, k, none⟩ = some u := by
    have : k = 0 ∨ k = 1 ∨ k = 2 ∨ k = 3 := by omega
    rcases this with rfl | rfl | rfl | rfl
    · exact ⟨_, cell_at ht rfl⟩
    · exact ⟨_, cell_at ht rfl⟩
    · exact ⟨_, cell_at ht rfl⟩
    · exact ⟨_, cell_at ht rfl⟩
  obtain ⟨u, hu⟩ := c
  have fz : w1.frozen? ⟨T, k, none⟩ = false := frozen_at ht
  clear ht
  go_wp2
  go_ret
  exact ⟨rfl, w1, hb, rfl⟩

/-- What Text has laid. -/
def piece (d : Nat → ByteArray) (k i : Nat) : Value := .string (if i < k then d i else ⟨#[]⟩)
def TextLaid (w0 : World) (H : Nat) (d : Nat → ByteArray) (k : Nat) (w : World) : Prop :=
  Below H w0 w ∧ w.heap[H + 1]? = some (.cells #[piece d k 0, piece d k 1, piece d k 2, piece d k 3] 56)
theorem text_step {w0 : World} {H : Nat} {x : Nat → Int} {d : Nat → ByteArray} (st : ∀ k, k < 4 → Shows (x k) (d k)) (k : Nat) (hk : k < 4) (wr : World) (h : TextLaid w0 H d k wr) :
    Calls Tryd.prog 37 (#[.int .i64 k, .int .u64 (x k)] ++ #[.pointer (some ⟨H + 1, 0, none⟩)]) wr (Step (TextLaid w0 H d (k + 1)) (fun _ => False)) := by
  obtain ⟨hb, ht⟩ := h
  have hlt : H + 1 < wr.heap.size := World.block_lt_of_cell? wr ⟨H + 1, 0, none⟩ (cell_at ht rfl)
  refine (text1 (H + 1) k hk (x k) (d k) (st k hk) _ _ _ _ wr ht).mono ?_
  rintro e w' ⟨rfl, w1, hb1, rfl⟩
  have ht1 := (hb1.block (H + 1) hlt).trans ht
  refine .inl ⟨rfl, (hb.trans (hb1.mono (by omega))).setCell (by simp) _, ?_⟩
  rw [heap_setCell_same w1 (H + 1) k _ _ (.string (d k)) ht1]
  have : k = 0 ∨ k = 1 ∨ k = 2 ∨ k = 3 := by omega
  rcases this with rfl | rfl | rfl | rfl <;> rfl

/-- Four texts, a colon between. -/
def joined (d : Nat → ByteArray) : ByteArray := ⟨(Lib.join ([d 0, d 1, d 2, d 3].map (·.data.toList)) [58]).toArray⟩
/-- What strings.Join makes of four texts that lie in a row. -/
def Joins4 : Prop := ∀ (d : Nat → ByteArray) (B c : Nat) (w : World), (∀ k, k < 4 → w.cell? ⟨B, k, none⟩ = some (.string (d k)) ∧ (d k).size ≤ 20) → B < w.heap.size → 4 ≤ c →
  Calls Tryd.prog 39 #[.slice (some ⟨B, 0, none⟩) 4 c, .string ⟨#[58]⟩] w fun e w' => e = .returned (.string (joined d)) ∧ Below w.heap.size w w'

set_option maxRecDepth 100000 in
set_option maxHeartbeats 1000000 in
theorem text_of (hJ : Joins4) (x : Nat → Int) (d : Nat → ByteArray) (st : ∀ k, k < 4 → Shows (x k) (d k)) (hd : ∀ k, k < 4 → (d k).size ≤ 20) (w : World) :
    Calls Tryd.prog 18 #[vec (x 0) (x 1) (x 2) (x 3)] w fun e w' => e = .returned (.string (joined d)) ∧ Below w.heap.size w w' := by
  have hcl : ∀ (args : Array Value) (w : World), (callFunc 37 args).run Tryd.prog w = .ok (.enter 37 args) w := fun _ _ => by kernel_rfl
  have hat : TextLaid w w.heap.size d 0 (((w.alloc (box (x 0) (x 1) (x 2) (x 3))).alloc (.cells #[.string ⟨#[]⟩, .string ⟨#[]⟩, .string ⟨#[]⟩, .string ⟨#[]⟩] 56)).alloc (box (x 0) (x 1) (x 2) (x 3))) := by
    refine ⟨((((Below.refl _ _).alloc (Nat.le_refl _) _).alloc (by simp) _).alloc (by simp; omega) _), ?_⟩
    rw [heap_alloc_old _ _ (by simp)]
    exact heap_alloc2_new _ _ _
  have HE := Lib.hid (each_any (x 0) (x 1) (x 2) (x 3) 37 #[.pointer (some ⟨w.heap.size + 1, 0, none⟩)] (TextLaid w w.heap.size d) (fun _ => False) _ hcl hat
    (text_step st 0 (by omega)) (text_step st 1 (by omega)) (text_step st 2 (by omega)) (text_step st 3 (by omega)))
  have HJ := fun W h1 => Lib.hid (hJ d (w.heap.size + 1) 4 W h1)
  have HS := Lib.hid hd
  clear hcl hat st hJ hd
  obtain ⟨r, hr⟩ : ∃ r, r = joined d := ⟨_, rfl⟩
  rw [← hr] at HJ ⊢
  clear hr
  unfold vec
  unfold vec box at HE
  go_enter Tryd.func18, Tryd.ntmps18
  go_wp2_with fail
  refine HE.out.mono ?_
  clear HE
  rintro e w1 (⟨rfl, hb, hc⟩ | ⟨rfl, hf⟩)
  · have hlt : w.heap.size + 1 < w1.heap.size := World.block_lt_of_cell? w1 ⟨w.heap.size + 1, 0, none⟩ (cell_at hc rfl)
    have HC := Lib.hid (HJ w1 (fun k hk => ⟨by
      have : k = 0 ∨ k = 1 ∨ k = 2 ∨ k = 3 := by omega
      rcases this with rfl | rfl | rfl | rfl <;> exact cell_at hc rfl, HS.out k hk⟩))
    clear hc HJ HS
    go_wp2_with fail
    refine (HC.out.out hlt (by omega)).mono ?_
    rintro e w2 ⟨rfl, hb2⟩
    go_wp2
    go_ret
    exact ⟨rfl, hb.trans (hb2.mono (by omega))⟩
  · exact hf.elim
end Go.Proofs.YtaljedficmpjpaaDoor.Vec
