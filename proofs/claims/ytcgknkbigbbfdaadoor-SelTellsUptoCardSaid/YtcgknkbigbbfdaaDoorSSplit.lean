/- What sel.split, sel.sure and sel.parseTerm answer of any text and term, where they leave by a panic too; of memory that was there nothing turns. -/
import Derived.Test.YtcgknkbigbbfdaaDoorSRead
import Derived.Test.YtcgknkbigbbfdaaDoorSTextV
namespace Go.Proofs.YtcgknkbigbbfdaaDoor.Sel
open Go.RowKit Go.Proofs.YtcgknkbigbbfdaaDoor.Texts Go.Proofs.YtcgknkbigbbfdaaDoor.Word Go.Proofs.YtcgknkbigbbfdaaDoor.Forms Go.Proofs.YtcgknkbigbbfdaaDoor.Split

/-- The package's own error is there. -/
def Err (w : World) : Prop := ∃ T p, w.cell? ⟨0, 0, none⟩ = some (.iface T p)
theorem Err.below {w w' : World} (h : Err w) (hb : Below w.heap.size w w') : Err w' := by
  obtain ⟨T, p, h⟩ := h
  have hl := World.block_lt_of_cell? w ⟨0, 0, none⟩ h
  exact ⟨T, p, (hb.cell (p := ⟨0, 0, none⟩) hl).trans h⟩
/-- The call left by a panic. -/
def Falls (e : Ending) : Prop := ∃ T p, e = .panicked [{ v := .iface T p, recovered := false }]

theorem srow_new {w : World} {ps : List (List UInt8)} {N : Nat} {T : TypeId} (h1 : ps ≠ []) (hN : ps.length ≤ N) (hm : N ≤ 5) : SRow (w.alloc (.cells (Lib.cellsOf (ps.map str) N) T)) (.slice (some ⟨w.heap.size, 0, none⟩) ps.length N) (ps.map str) := by
  refine .inr ⟨by simp [h1], w.heap.size, 0, N, by rw [List.length_map], ?_, by rw [List.length_map]; exact hN, by unfold maxLen; omega, fun j t hj => ?_⟩
  · show _ < (w.heap.push _).size
    simp
  · have hg : (w.alloc (.cells (Lib.cellsOf (ps.map str) N) T)).heap[w.heap.size]? = some (.cells (Lib.cellsOf (ps.map str) N) T) := by
      show (w.heap.push _)[w.heap.size]? = _
      simp
    have hc : (Lib.cellsOf (ps.map str) N)[j]? = some (.string t) := by
      unfold Lib.cellsOf
      have hjl := (List.getElem?_eq_some_iff.1 hj).1
      rw [List.getElem?_toArray, List.getElem?_append_left (by simpa using hjl), List.getElem?_map, hj]
      rfl
    rw [Nat.zero_add]
    simp only [World.cell?, hg, hc]
    rfl

/-- What is told of the pieces of a text. -/
def Pieces (ps : List (List UInt8)) (w : World) (e : Ending) (w' : World) : Prop := (∃ v, e = .returned v ∧ SRow w' v (ps.map str)) ∧ Below w.heap.size w w'
set_option maxHeartbeats 1000000 in
set_option maxRecDepth 100000 in
theorem split_yes (c : UInt8) (s : ByteArray) (hs : s.size ≤ 4611686018427387904) (h4 : (cuts c s.data.toList).length ≤ 4) (w : World) :
    Calls Tryd.prog 34 #[.string s, .string ⟨#[c]⟩, .int .i64 4] w (Pieces (cuts c s.data.toList) w) := by
  have hc4 := cutK_four c s.data.toList
  rw [size_list] at hc4
  have hcut : cutK c 4 s.data.toList = cuts c s.data.toList := by
    rcases cutK_cuts c s.data.toList with h | h
    · exact h.2
    · omega
  have hN := cutK_length c (min 5 (s.size + 1) - 1) s.data.toList
  rw [hc4, hcut] at hN
  have HS := Lib.hid (splitN_any c s hs _ rfl)
  rw [hc4, hcut] at HS
  have hne := cuts_ne c s.data.toList
  obtain ⟨ps, hps⟩ : ∃ ps, ps = cuts c s.data.toList := ⟨_, rfl⟩
  obtain ⟨N, hNe⟩ : ∃ N, N = min 5 (s.size + 1) := ⟨_, rfl⟩
  rw [← hNe] at HS hN
  rw [← hps] at HS hN h4 hne ⊢
  have HR := Lib.hid (fun w => srow_new (w := w) (T := 9) hne (N := N) (by omega) (by omega))
  have h4z : ¬ (4 : Int) < (ps.length : Int) := by omega
  clear hc4 hcut hps hNe hne
  go_enter Tryd.func34, Tryd.ntmps34
  go_wp2_with fail
  with_reducible refine (HS.out _).mono ?_
  rintro e w1 ⟨rfl, rfl⟩
  go_wp2
  go_ret
  exact ⟨⟨_, rfl, HR.out w⟩, grew _ _⟩
set_option maxHeartbeats 1000000 in
set_option maxRecDepth 100000 in
theorem split_at (c : UInt8) (s : ByteArray) (hs : s.size ≤ 4611686018427387904) (h4 : (cuts c s.data.toList).length ≤ 4) (w : World) :
    Calls Tryd.prog 34 #[.string s, .string ⟨#[c]⟩, .int .i64 4] w fun e w' => (∃ cap, e = .returned (.slice (some ⟨w.heap.size, 0, none⟩) ((cuts c s.data.toList).map str).length cap) ∧ SRow w' (.slice (some ⟨w.heap.size, 0, none⟩) ((cuts c s.data.toList).map str).length cap) ((cuts c s.data.toList).map str)) ∧ Below w.heap.size w w' := by
  have hc4 := cutK_four c s.data.toList
  rw [size_list] at hc4
  have hcut : cutK c 4 s.data.toList = cuts c s.data.toList := by
    rcases cutK_cuts c s.data.toList with h | h
    · exact h.2
    · omega
  have hN := cutK_length c (min 5 (s.size + 1) - 1) s.data.toList
  rw [hc4, hcut] at hN
  have HS := Lib.hid (splitN_any c s hs _ rfl)
  rw [hc4, hcut] at HS
  have hne := cuts_ne c s.data.toList
  obtain ⟨ps, hps⟩ : ∃ ps, ps = cuts c s.data.toList := ⟨_, rfl⟩
  obtain ⟨N, hNe⟩ : ∃ N, N = min 5 (s.size + 1) := ⟨_, rfl⟩
  rw [← hNe] at HS hN
  rw [← hps] at HS hN h4 hne ⊢
  have HR := Lib.hid (fun w => srow_new (w := w) (T := 9) hne (N := N) (by omega) (by omega))
  rw [List.length_map]
  have h4z : ¬ (4 : Int) < (ps.length : Int) := by omega
  clear hc4 hcut hps hNe hne
  go_enter Tryd.func34, Tryd.ntmps34
  go_wp2_with fail
  with_reducible refine (HS.out _).mono ?_
  rintro e w1 ⟨rfl, rfl⟩
  go_wp2
  go_ret
  exact ⟨⟨_, rfl, HR.out w⟩, grew _ _⟩
set_option maxHeartbeats 1000000 in
set_option maxRecDepth 100000 in
theorem split_no (c : UInt8) (s : ByteArray) (hs : s.size ≤ 4611686018427387904) (h4 : 4 < (cuts c s.data.toList).length) (w : World) (hE : Err w) :
    Calls Tryd.prog 34 #[.string s, .string ⟨#[c]⟩, .int .i64 4] w fun e w' => Falls e ∧ Below w.heap.size w w' := by
  have hc4 := cutK_four c s.data.toList
  rw [size_list] at hc4
  have hcut : 4 < (cutK c 4 s.data.toList).length := by
    rcases cutK_cuts c s.data.toList with h | h
    · rw [h.2] at h; omega
    · exact h.1
  have HS := Lib.hid (splitN_any c s hs _ rfl)
  rw [hc4] at HS
  obtain ⟨ps, hps⟩ : ∃ ps, ps = cutK c 4 s.data.toList := ⟨_, rfl⟩
  obtain ⟨N, hNe⟩ : ∃ N, N = min 5 (s.size + 1) := ⟨_, rfl⟩
  rw [← hNe] at HS
  rw [← hps] at HS hcut
  have h4z : (4 : Int) < (ps.length : Int) := by omega
  have HE : Hid (∀ W, Below w.heap.size w W → Err W) := Lib.hid fun W h => hE.below h
  have HS2 : Hid (∀ W, Calls Tryd.prog 56 #[.string s, .string ⟨#[c]⟩, .int .i64 5] W fun e w' => (∃ g, e = .returned (.slice (some ⟨g, 0, none⟩) ps.length N)) ∧ Below W.heap.size W w') := Lib.hid fun W => (HS.out W).mono fun e w' ⟨he, hw⟩ => ⟨⟨_, he⟩, by rw [hw]; exact grew _ _⟩
  clear hc4 hps hNe h4 hE HS
  go_enter Tryd.func34, Tryd.ntmps34
  go_wp2_with fail
  with_reducible refine (HS2.out _).mono ?_
  rintro e w1 ⟨⟨g, rfl⟩, hb⟩
  obtain ⟨T, p, hc⟩ := HE.out _ hb
  go_wp2
  exact ⟨rfl, ⟨T, p, rfl⟩, hb⟩
end Go.Proofs.YtcgknkbigbbfdaaDoor.Sel
