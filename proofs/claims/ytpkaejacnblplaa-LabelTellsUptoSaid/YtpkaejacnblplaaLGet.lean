/- What label.getPair and label.Get answer of every text and place; of memory that was there nothing turns. -/
import Derived.Test.YtpkaejacnblplaaLExamples
namespace Go.Proofs.Ytpkaejacnblplaa.Label
open Go.RowKit Go.Proofs.Ytpkaejacnblplaa.Word

/-- The pair whose two texts stand at a place, and the place behind. -/
def oneGet (s : ByteArray) (p : Int) : Option (Pr × Int) :=
  match Wire.textV s.data.toList p 32 with
  | none => none
  | some a => match Wire.textV s.data.toList a.2 32 with
    | none => none
    | some b => some ((s.extract a.1 a.2, s.extract b.1 b.2), b.2)

set_option maxHeartbeats 2000000 in
set_option maxRecDepth 100000 in
theorem getPair_any (s : ByteArray) (hs : s.size ≤ 9223372036854775807) (p : Int) (w : World) :
    Calls Try.prog 30 #[.string s, .int .i64 p] w (TellsOne (Value.int .i64) (oneGet s p) w) := by
  have hb0 : Below w.heap.size w (w.alloc (.cells #[.string ByteArray.empty, .string ByteArray.empty] 48)) := (Below.refl _ _).alloc (Nat.le_refl _) _
  obtain ⟨r, hr⟩ : ∃ r, Wire.textV s.data.toList p 32 = r := ⟨_, rfl⟩
  cases r with
  | none =>
    have HT := Lib.hid (Wire.text_no s hs p 32 (by omega) hr)
    have HE1 : Hid (oneGet s p = none) := Lib.hid (by unfold oneGet; rw [hr])
    clear hr
    go_enter Try.func30, Try.ntmps30
    go_wp2_with fail
    refine (HT.out _).mono ?_
    rintro e w2 ⟨rfl, hb3⟩
    obtain ⟨k0, f0, k1, f1, hbk⟩ := two_set ((hb3.block w.heap.size (by simp)).trans (heap_alloc_new _ _)) (.string ⟨#[]⟩) (.string ⟨#[]⟩)
    have hbs := ((hb0.trans (hb3.mono hb0.size)).setCell (p := ⟨w.heap.size, 0, none⟩) (Nat.le_refl _) (.string ⟨#[]⟩)).setCell (p := ⟨w.heap.size, 1, none⟩) (Nat.le_refl _) (.string ⟨#[]⟩)
    obtain ⟨e0, e1⟩ := two_cells hbk
    go_wp2
    refine bodyPost_ret (v := .tuple #[.agg #[.string ⟨#[]⟩, .string ⟨#[]⟩], .int .i64 0, .bool false]) (by simp [results, Try.results30, go_sem, e0, e1]) rfl ?_
    rw [HE1.out]
    exact ⟨⟨none2, 0, rfl⟩, hbs⟩
  | some a =>
    obtain ⟨a1, a2⟩ := a
    have HT := Lib.hid (Wire.text_yes s hs p 32 (by omega) a1 a2 hr)
    obtain ⟨r2, hr2⟩ : ∃ r, Wire.textV s.data.toList a2 32 = r := ⟨_, rfl⟩
    cases r2 with
    | none =>
      have HT2 := Lib.hid (Wire.text_no s hs a2 32 (by omega) hr2)
      have HE1 : Hid (oneGet s p = none) := Lib.hid (by unfold oneGet; rw [hr]; simp only [hr2])
      clear hr hr2
      go_enter Try.func30, Try.ntmps30
      go_wp2_with fail
      refine (HT.out _).mono ?_
      rintro e w1 ⟨rfl, hb1⟩
      go_wp2_with fail
      refine (HT2.out _).mono ?_
      rintro e w2 ⟨rfl, hb2⟩
      have hb3 := hb1.trans (hb2.mono hb1.size)
      obtain ⟨k0, f0, k1, f1, hbk⟩ := two_set ((hb3.block w.heap.size (by simp)).trans (heap_alloc_new _ _)) (.string ⟨#[]⟩) (.string ⟨#[]⟩)
      have hbs := ((hb0.trans (hb3.mono hb0.size)).setCell (p := ⟨w.heap.size, 0, none⟩) (Nat.le_refl _) (.string ⟨#[]⟩)).setCell (p := ⟨w.heap.size, 1, none⟩) (Nat.le_refl _) (.string ⟨#[]⟩)
      obtain ⟨e0, e1⟩ := two_cells hbk
      go_wp2
      refine bodyPost_ret (v := .tuple #[.agg #[.string ⟨#[]⟩, .string ⟨#[]⟩], .int .i64 0, .bool false]) (by simp [results, Try.results30, go_sem, e0, e1]) rfl ?_
      rw [HE1.out]
      exact ⟨⟨none2, 0, rfl⟩, hbs⟩
    | some b =>
      obtain ⟨b1, b2⟩ := b
      have HT2 := Lib.hid (Wire.text_yes s hs a2 32 (by omega) b1 b2 hr2)
      have HE1 : Hid (oneGet s p = some ((s.extract a1 a2, s.extract b1 b2), (b2 : Int))) := Lib.hid (by unfold oneGet; rw [hr]; simp only [hr2])
      clear hr hr2
      obtain ⟨x1, hx1⟩ : ∃ x, x = s.extract a1 a2 := ⟨_, rfl⟩
      obtain ⟨x2, hx2⟩ : ∃ x, x = s.extract b1 b2 := ⟨_, rfl⟩
      rw [← hx1] at HT HE1
      rw [← hx2] at HT2 HE1
      clear hx1 hx2
      go_enter Try.func30, Try.ntmps30
      go_wp2_with fail
      refine (HT.out _).mono ?_
      rintro e w1 ⟨rfl, hb1⟩
      go_wp2_with fail
      refine (HT2.out _).mono ?_
      rintro e w2 ⟨rfl, hb2⟩
      have hb3 := hb1.trans (hb2.mono hb1.size)
      obtain ⟨k0, f0, k1, f1, hbk⟩ := two_set ((hb3.block w.heap.size (by simp)).trans (heap_alloc_new _ _)) (.string x1) (.string x2)
      have hbs := ((hb0.trans (hb3.mono hb0.size)).setCell (p := ⟨w.heap.size, 0, none⟩) (Nat.le_refl _) (.string x1)).setCell (p := ⟨w.heap.size, 1, none⟩) (Nat.le_refl _) (.string x2)
      obtain ⟨e0, e1⟩ := two_cells hbk
      go_wp2
      refine bodyPost_ret (v := .tuple #[.agg #[.string x1, .string x2], .int .i64 b2, .bool true]) (by simp [results, Try.results30, go_sem, e0, e1]) rfl ?_
      rw [HE1.out]
      exact ⟨rfl, hbs⟩

set_option maxHeartbeats 2000000 in
set_option maxRecDepth 100000 in
theorem getClos_any (s : ByteArray) (hs : s.size ≤ 9223372036854775807) (p : Int) (B : Nat) (w : World) (hB : w.cell? ⟨B, 0, none⟩ = some (.string s)) :
    Calls Try.prog 29 #[.int .i64 p, .pointer (some ⟨B, 0, none⟩)] w (TellsOne (Value.int .i64) (oneGet s p) w) := by
  have hBl := World.block_lt_of_cell? w ⟨B, 0, none⟩ hB
  have hb0 : Below w.heap.size w (w.alloc (.cells #[.string ByteArray.empty, .string ByteArray.empty] 48)) := (Below.refl _ _).alloc (Nat.le_refl _) _
  have HG := Lib.hid (getPair_any s hs p)
  obtain ⟨r, hr⟩ : ∃ r, oneGet s p = r := ⟨_, rfl⟩
  rw [hr] at HG ⊢
  clear hr
  cases r with
  | none =>
    go_enter Try.func29, Try.ntmps29
    go_wp2_with fail
    refine (HG.out _).mono ?_
    rintro e w2 ⟨⟨u, q, rfl⟩, hb3⟩
    obtain ⟨u1, u2⟩ := u
    obtain ⟨k0, f0, k1, f1, hbk⟩ := two_set ((hb3.block w.heap.size (by simp)).trans (heap_alloc_new _ _)) (.string u1) (.string u2)
    have hbs := ((hb0.trans (hb3.mono hb0.size)).setCell (p := ⟨w.heap.size, 0, none⟩) (Nat.le_refl _) (.string u1)).setCell (p := ⟨w.heap.size, 1, none⟩) (Nat.le_refl _) (.string u2)
    obtain ⟨e0, e1⟩ := two_cells hbk
    go_wp2
    refine bodyPost_ret (v := .tuple #[.agg #[.string u1, .string u2], .int .i64 q, .bool false]) (by simp [results, Try.results29, go_sem, e0, e1]) rfl ?_
    exact ⟨⟨(u1, u2), q, rfl⟩, hbs⟩
  | some y =>
    obtain ⟨⟨u1, u2⟩, q⟩ := y
    go_enter Try.func29, Try.ntmps29
    go_wp2_with fail
    refine (HG.out _).mono ?_
    rintro e w2 ⟨rfl, hb3⟩
    obtain ⟨k0, f0, k1, f1, hbk⟩ := two_set ((hb3.block w.heap.size (by simp)).trans (heap_alloc_new _ _)) (.string u1) (.string u2)
    have hbs := ((hb0.trans (hb3.mono hb0.size)).setCell (p := ⟨w.heap.size, 0, none⟩) (Nat.le_refl _) (.string u1)).setCell (p := ⟨w.heap.size, 1, none⟩) (Nat.le_refl _) (.string u2)
    obtain ⟨e0, e1⟩ := two_cells hbk
    go_wp2
    refine bodyPost_ret (v := .tuple #[.agg #[.string u1, .string u2], .int .i64 q, .bool true]) (by simp [results, Try.results29, go_sem, e0, e1]) rfl ?_
    exact ⟨rfl, hbs⟩
end Go.Proofs.Ytpkaejacnblplaa.Label
