/- What the document's own Text answers of any job (chapter 11); of memory that was there nothing turns. -/
import Derived.Test.YtbilkeadhflibaaGreatDoorYSpecE
namespace Go.Proofs.YtbilkeadhflibaaGreatDoor.Job
open Go.RowKit Go.Proofs.YtbilkeadhflibaaGreatDoor.Wire Go.Proofs.YtbilkeadhflibaaGreatDoor.Vec Go.Proofs.YtbilkeadhflibaaGreatDoor.Sel Go.Proofs.YtbilkeadhflibaaGreatDoor.Texts

/-- The first so many words, blanks between. -/
def accG (f : Nat → ByteArray) : Nat → ByteArray
  | 0 => ⟨#[]⟩
  | k + 1 => if k = 0 then f 0 else accG f k ++ ⟨#[32]⟩ ++ f k
theorem accG_le (f : Nat → ByteArray) (k : Nat) (hk : 0 < k) : (accG f k).size + 1 + (f k).size ≤ (accG f (k + 1)).size := by
  show _ ≤ (if k = 0 then f 0 else accG f k ++ ⟨#[32]⟩ ++ f k).size
  rw [if_neg (by omega), size_app, size_app]
  have : (⟨#[32]⟩ : ByteArray).size = 1 := rfl
  omega
theorem accG_small (f : Nat → ByteArray) (h : (accG f 6).size ≤ 1400) (i : Nat) (h1 : 1 ≤ i) (hi : i < 6) : (accG f i).size ≤ 1400 ∧ (f i).size ≤ 1400 := by
  have l1 : (accG f 1).size + 1 + (f 1).size ≤ (accG f 2).size := accG_le f 1 (by omega)
  have l2 : (accG f 2).size + 1 + (f 2).size ≤ (accG f 3).size := accG_le f 2 (by omega)
  have l3 : (accG f 3).size + 1 + (f 3).size ≤ (accG f 4).size := accG_le f 3 (by omega)
  have l4 : (accG f 4).size + 1 + (f 4).size ≤ (accG f 5).size := accG_le f 4 (by omega)
  have l5 : (accG f 5).size + 1 + (f 5).size ≤ (accG f 6).size := accG_le f 5 (by omega)
  have : i = 1 ∨ i = 2 ∨ i = 3 ∨ i = 4 ∨ i = 5 := by omega
  rcases this with rfl | rfl | rfl | rfl | rfl <;> constructor <;> omega
theorem accG_six (a b c d e f : ByteArray) : (accG (fun i => [a, b, c, d, e, f].getD i ⟨#[]⟩) 6).data.toList = Forms.glueC 32 [a.data.toList, b.data.toList, c.data.toList, d.data.toList, e.data.toList, f.data.toList] := by
  simp [accG, Forms.glueC]
theorem accG_text {x : Jb} (h : checkJ x = 0) : accG (fun i => (wordsJ x).getD i ⟨#[]⟩) 6 = textJ x := by
  refine list_eq_of_toList ?_
  rw [Lib.toList_data, Lib.toList_data]
  unfold textJ
  rw [if_pos h, wordsJ_eq, accG_six]
  rfl
theorem six_at {w : World} {g : Nat} {x : Jb} (h : w.heap[g]? = some (.cells (svals (wordsJ x)).toArray 9)) (i : Nat) (hi : i < 6) : w.cell? ⟨g, i, none⟩ = some (.string ((wordsJ x).getD i ⟨#[]⟩)) := by
  have : i = 0 ∨ i = 1 ∨ i = 2 ∨ i = 3 ∨ i = 4 ∨ i = 5 := by omega
  rcases this with rfl | rfl | rfl | rfl | rfl | rfl <;> exact cell_at h rfl

set_option maxHeartbeats 4000000 in
set_option maxRecDepth 100000 in
theorem refTextJ_any (x : Jb) (s : Value) (w : World) (hf : FairJ x) (hs : TRow w s (terms x)) :
    Calls Tryz.prog 25 #[valJ x s] w fun e w' => e = .returned (.string (textJ x)) ∧ Below w.heap.size w w' := by
  have HC := Lib.hid (fun W (h : Below w.heap.size w W) => refCheck_any x s W hf (hs.below h))
  obtain ⟨r, hr⟩ : ∃ r, r = checkJ x := ⟨_, rfl⟩
  rw [← hr] at HC
  by_cases h0 : r = 0
  · have hc : checkJ x = 0 := by rw [← hr]; exact h0
    have hB := (checkJ_ok.1 hc).2.1
    have HW := Lib.hid (fun W (h : Below w.heap.size w W) => refWords_any x s W hf hB (hs.below h))
    have ht := accG_text hc
    have hz : (textJ x).size ≤ 1300 := by
      unfold textJ
      rw [if_pos hc, size_str]
      exact textJ_small hf hc
    have HX : Hid (∀ (W : World) (g : Nat), W.heap[g]? = some (.cells (svals (wordsJ x)).toArray 9) → ∀ i, i < 6 → W.cell? ⟨g, i, none⟩ = some (.string ((wordsJ x).getD i ⟨#[]⟩))) := Lib.hid fun W g h i hi => six_at h i hi
    obtain ⟨f, hfe⟩ : ∃ f : Nat → ByteArray, f = fun i => (wordsJ x).getD i ⟨#[]⟩ := ⟨_, rfl⟩
    have HX : Hid (∀ (W : World) (g : Nat), W.heap[g]? = some (.cells (svals (wordsJ x)).toArray 9) → ∀ i, i < 6 → W.cell? ⟨g, i, none⟩ = some (.string (f i))) := Lib.hid fun W g h i hi => by rw [hfe]; exact HX.out W g h i hi
    rw [← hfe] at ht
    have HZ : Hid (∀ i, 1 ≤ i → i < 6 → (accG f i).size ≤ 1400 ∧ (f i).size ≤ 1400) := Lib.hid (accG_small f (by rw [ht]; omega))
    rw [← ht]
    obtain ⟨F, hF⟩ : ∃ F, F = accG f := ⟨_, rfl⟩
    have H1 : Hid (F 1 = f 0) := Lib.hid (by rw [hF]; rfl)
    have HN : Hid (∀ i, 1 ≤ i → F (i + 1) = F i ++ ⟨#[32]⟩ ++ f i) := Lib.hid fun i hi => by rw [hF]; exact if_neg (by omega)
    rw [← hF] at HZ ⊢
    obtain ⟨cs, hcs⟩ : ∃ cs, cs = (svals (wordsJ x)).toArray := ⟨_, rfl⟩
    rw [← hcs] at HW HX
    rw [valJ_eq] at HC HW ⊢
    clear hr hc hB ht hz hfe hF hcs hs hf
    subst h0
    obtain ⟨A0, e0⟩ : ∃ a : Int, a = am (dem x) 0 := ⟨_, rfl⟩
    obtain ⟨A1, e1⟩ : ∃ a : Int, a = am (dem x) 1 := ⟨_, rfl⟩
    obtain ⟨A2, e2⟩ : ∃ a : Int, a = am (dem x) 2 := ⟨_, rfl⟩
    obtain ⟨A3, e3⟩ : ∃ a : Int, a = am (dem x) 3 := ⟨_, rfl⟩
    rw [← e0, ← e1, ← e2, ← e3] at HC HW ⊢
    clear e0 e1 e2 e3
    generalize path x = p at HC HW ⊢
    generalize cou x = n at HC HW ⊢
    generalize pri x = m at HC HW ⊢
    generalize tik x = k at HC HW ⊢
    unfold val9 at HC HW ⊢
    go_enter Tryz.func25, Tryz.ntmps25
    go_upto_region 1 with fail
    have hx := heap_alloc_new w (box9R p A0 A1 A2 A3 n m k s)
    have b0 := grew w (box9R p A0 A1 A2 A3 n m k s)
    obtain ⟨T, hTe⟩ : ∃ T, T = w.heap.size := ⟨_, rfl⟩
    rw [← hTe] at hx ⊢
    unfold box9R at hx b0
    generalize w.alloc _ = v0 at hx b0 ⊢
    have HX0 := Lib.hid hx
    clear hx hTe
    obtain ⟨⟨c0, c1, c2, c3, c4, c5, c6, c7, c8⟩, _⟩ := cells9R HX0.out
    go_wp2_with fail
    with_reducible refine (HC.out _ b0).mono ?_
    rintro e v1 ⟨rfl, k1⟩
    have hA := (k1.block _ (Array.getElem?_eq_some_iff.1 HX0.out).1).trans HX0.out
    have b1 := grows b0 k1
    clear k1 b0 c0 c1 c2 c3 c4 c5 c6 c7 c8 HX0
    obtain ⟨⟨c0, c1, c2, c3, c4, c5, c6, c7, c8⟩, _⟩ := cells9R hA
    clear hA
    go_wp2_with fail
    with_reducible refine (HW.out _ b1).mono ?_
    rintro e v2 ⟨⟨g, rfl, hg⟩, k2⟩
    have HB2 := Lib.hid (grows b1 k2)
    have q0 := HX.out _ _ hg 0 (by omega)
    have Hg := Lib.hid (HX.out _ _ hg)
    clear k2 b1 c0 c1 c2 c3 c4 c5 c6 c7 c8 hg
    go_wp2_with fail
    go_loopw [4, 5] (fun t i wr => ∃ j : Nat, 1 ≤ j ∧ j ≤ 6 ∧ i = .int .i64 j ∧ t = .string (F j) ∧ wr = v2) (fun _ i _ => 6 - (intOf i).toNat)
    case atStart => exact ⟨1, by omega, by omega, rfl, by rw [H1.out], rfl⟩
    case round =>
      obtain ⟨j, hj1, hj, rfl, rfl, hwr⟩ := hrel
      subst wr
      by_cases hlt : j < 6
      · have hltz : (j : Int) < 6 := by omega
        have hj0 : (0 : Int) ≤ (j : Int) := by omega
        have hcj := Hg.out j hlt
        obtain ⟨z1, z2⟩ := HZ.out j hj1 hlt
        have hn := HN.out j hj1
        have add1 : ∀ w, Sem.run Tryz.prog (Op.stringOp .add (F j) ⟨#[32]⟩) w = .ok (.string (F j ++ ⟨#[32]⟩)) w := fun w => run_string_add_sum w _ _ (by have : (⟨#[32]⟩ : ByteArray).size = 1 := rfl; omega)
        have add2 : ∀ w, Sem.run Tryz.prog (Op.stringOp .add (F j ++ ⟨#[32]⟩) (f j)) w = .ok (.string (F (j + 1))) w := fun w => by rw [hn]; exact run_string_add_sum w _ _ (by rw [size_app]; have : (⟨#[32]⟩ : ByteArray).size = 1 := rfl; omega)
        clear hn z1 z2 q0
        go_wp2
        go_roundw
        case rel => exact ⟨j + 1, by omega, by omega, by go_num, by first | rfl | trivial, by first | rfl | trivial⟩
        case measure => simp [intOf]; omega
      · have hj6 : j = 6 := by omega
        subst hj6
        clear q0
        go_wp2
        go_ret
        exact ⟨rfl, HB2.out⟩
  · have ht : textJ x = ⟨#[63]⟩ := if_neg (by rw [← hr]; exact h0)
    have hne : (r != 0) = true := by simpa using h0
    rw [valJ_eq] at HC ⊢
    rw [ht]
    clear hr hs hf ht
    unfold val9 at HC ⊢
    go_enter Tryz.func25, Tryz.ntmps25
    go_wp2_with fail
    refine (HC.out _ (grew w _)).mono ?_
    rintro e w1 ⟨rfl, hb1⟩
    have hb' := grows (grew w _) hb1
    clear hb1
    go_wp2
    go_ret
    exact ⟨rfl, hb'⟩
end Go.Proofs.YtbilkeadhflibaaGreatDoor.Job
