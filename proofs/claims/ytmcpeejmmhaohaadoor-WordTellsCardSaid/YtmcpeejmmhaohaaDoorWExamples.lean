/- The chapter's examples of names and paths, which every statement asks first, are answered as they should be. -/
import Derived.Test.YtmcpeejmmhaohaaDoorWPath
namespace Go.Proofs.YtmcpeejmmhaohaaDoor.Word
open Go.RowKit

/-- One step behind another, of worlds that only grow. -/
theorem grows {a b c : World} (h : Below a.heap.size a b) (k : Below b.heap.size b c) : Below a.heap.size a c := h.trans (k.mono h.size)

theorem str_list (l : List UInt8) : (str l).toList = l := by rw [Lib.toList_data]; exact str_toList l

theorem right_is (s : ByteArray) (b : Bool) (h : right s.data.toList = b) (w : World) : Calls Tryd.prog 10 #[.string s] w fun e w' => e = .returned (.bool b) ∧ Below w.heap.size w w' := by
  have := right_any s w
  rw [h] at this
  exact this
theorem count_is (s : ByteArray) (hs : s.size ≤ 4611686018427387904) (n : Int) (h : (count s.data.toList : Int) = n) (w : World) : Calls Tryd.prog 12 #[.string s] w fun e w' => e = .returned (.int .i64 n) ∧ Below w.heap.size w w' := by
  have := count_any s hs w
  rw [h] at this
  exact this
theorem under_is (a b : ByteArray) (hb : b.size ≤ 4611686018427387904) (t : Bool) (h : under a.data.toList b.data.toList = t) (w : World) : Calls Tryd.prog 19 #[.string a, .string b] w fun e w' => e = .returned (.bool t) ∧ Below w.heap.size w w' := by
  have := under_any a b hb w
  rw [h] at this
  exact this
theorem parts_is (s : ByteArray) (hs : s.size ≤ 4611686018427387904) (ls : List (List UInt8)) (h : parts s.data.toList = ls) (w : World) : Calls Tryd.prog 15 #[.string s] w (Gives ls w) := by
  have := parts_any s hs w
  rw [h] at this
  exact this
theorem ups_is (s : ByteArray) (hs : s.size ≤ 4611686018427387904) (ls : List (List UInt8)) (h : ups s.data.toList = ls) (w : World) : Calls Tryd.prog 17 #[.string s] w (Gives ls w) := by
  have := ups_any s hs w
  rw [h] at this
  exact this

set_option maxRecDepth 100000 in
set_option maxHeartbeats 4000000 in
theorem examples_any (w : World) : Calls Tryd.prog 9 #[] w fun e w' => e = .returned (.bool true) ∧ Below w.heap.size w w' := by
  go_enter Tryd.func9, Tryd.ntmps9
  go_wp2_with fail
  refine (ups_is ⟨#[97, 47, 98]⟩ (by decide) [[97], [97, 47, 98]] (by decide) _).mono ?_
  rintro e w1 ⟨v1, rfl, hv1, hb1⟩
  rcases hv1 with ⟨h, _⟩ | ⟨g1, cap1, rfl, hg1, _, hcap1, hcell1⟩
  · simp at h
  have c10 : w1.cell? ⟨g1, 0, none⟩ = some (.string (str [97])) := hcell1 0 (by decide)
  have c11 : w1.cell? ⟨g1, 1, none⟩ = some (.string (str [97, 47, 98])) := hcell1 1 (by decide)
  clear hcell1
  go_wp2_with fail
  refine (parts_is ⟨#[116, 101, 97, 109, 47, 120, 45, 50]⟩ (by decide) [[116, 101, 97, 109], [120, 45, 50]] (by decide) _).mono ?_
  rintro e w2 ⟨v2, rfl, hv2, hb2⟩
  rcases hv2 with ⟨h, _⟩ | ⟨g2, cap2, rfl, hg2, _, hcap2, hcell2⟩
  · simp at h
  have c21 : w2.cell? ⟨g2, 1, none⟩ = some (.string (str [120, 45, 50])) := hcell2 1 (by decide)
  clear hcell2
  have d10 : w2.cell? ⟨g1, 0, none⟩ = some (.string (str [97])) := by rw [hb2.cell hg1]; exact c10
  have d11 : w2.cell? ⟨g1, 1, none⟩ = some (.string (str [97, 47, 98])) := by rw [hb2.cell hg1]; exact c11
  have hb := grows hb1 hb2
  have e1 : ((str [97]).toList == [97]) = true := by rw [str_list]; decide
  have e2 : ((str [97, 47, 98]).toList == [97, 47, 98]) = true := by rw [str_list]; decide
  have e3 : ((str [120, 45, 50]).toList == [120, 45, 50]) = true := by rw [str_list]; decide
  clear c10 c11 hb1 hb2
  simp only [List.length_cons, List.length_nil] at hcap1 hcap2 ⊢
  go_wp2_with fail
  refine (right_is ⟨#[206, 177, 206, 178]⟩ true (by decide) _).mono ?_
  rintro e w3 ⟨rfl, hb3⟩
  have hb' := grows hb hb3
  clear hb hb3
  go_wp2_with fail
  refine (right_is _ true (by decide) _).mono ?_
  rintro e w4 ⟨rfl, hb4⟩
  have hb := grows hb' hb4
  clear hb' hb4
  go_wp2_with fail
  refine (right_is _ false (by decide) _).mono ?_
  rintro e w5 ⟨rfl, hb5⟩
  have hb' := grows hb hb5
  clear hb hb5
  go_wp2_with fail
  refine (right_is _ false (by decide) _).mono ?_
  rintro e w6 ⟨rfl, hb6⟩
  have hb := grows hb' hb6
  clear hb' hb6
  go_wp2_with fail
  refine (right_is _ false (by decide) _).mono ?_
  rintro e w7 ⟨rfl, hb7⟩
  have hb' := grows hb hb7
  clear hb hb7
  go_wp2_with fail
  refine (right_is _ true (by decide) _).mono ?_
  rintro e w8 ⟨rfl, hb8⟩
  have hb := grows hb' hb8
  clear hb' hb8
  go_wp2_with fail
  refine (right_is _ false (by decide) _).mono ?_
  rintro e w9 ⟨rfl, hb9⟩
  have hb' := grows hb hb9
  clear hb hb9
  go_wp2_with fail
  refine (count_is _ (by decide) 3 (by decide) _).mono ?_
  rintro e w10 ⟨rfl, hb10⟩
  have hb := grows hb' hb10
  clear hb' hb10
  go_wp2_with fail
  refine (under_is _ _ (by decide) true (by decide) _).mono ?_
  rintro e w11 ⟨rfl, hb11⟩
  have hb' := grows hb hb11
  clear hb hb11
  go_wp2_with fail
  refine (under_is _ _ (by decide) false (by decide) _).mono ?_
  rintro e w12 ⟨rfl, hb12⟩
  have hb := grows hb' hb12
  clear hb' hb12
  go_wp2_with fail
  refine (parts_is _ (by decide) [] (by decide) _).mono ?_
  rintro e w13 ⟨v13, rfl, hv13, hb13⟩
  have hb' := grows hb hb13
  rcases hv13 with ⟨_, rfl⟩ | ⟨_, _, _, _, h, _⟩
  · clear hb hb13
    go_wp2
    go_ret
    exact ⟨rfl, hb'⟩
  · exact absurd rfl h
end Go.Proofs.YtmcpeejmmhaohaaDoor.Word
