/- What vec.Put and vec.Get answer: the four amounts' bytes, one behind another; and the amounts that stand somewhere. -/
import Derived.Test.YtaljedficmpjpaaDoorVFour
import Derived.Test.YtaljedficmpjpaaDoorGet
import Derived.Deep.RegionWith
namespace Go.Proofs.YtaljedficmpjpaaDoor.Vec
open Go.RowKit Go.Proofs.YtaljedficmpjpaaDoor.Wire

set_option maxRecDepth 100000 in
set_option maxHeartbeats 1000000 in
theorem put1 (T k x : Nat) (hx : x < 18446744073709551616) (s : ByteArray) (hs : s.size ≤ 1000) (wr : World) (ht : wr.heap[T]? = some (.cells #[.string s] 9)) :
    Calls Tryd.prog 35 #[.int .i64 k, .int .u64 x, .pointer (some ⟨T, 0, none⟩)] wr fun e w' => e = .returned (.bool true) ∧ ∃ w1, Below wr.heap.size wr w1 ∧ w' = w1.setCell ⟨T, 0, none⟩ (.string (s ++ str (putL x))) := by
  have c := cell_at (i := 0) ht rfl
  have f := frozen_at (i := 0) ht
  have hT : T < wr.heap.size := World.block_lt_of_cell? wr ⟨T, 0, none⟩ c
  clear ht
  have HP := Lib.hid (put_any x hx)
  have hl : (str (putL x)).size ≤ 10 := by rw [str_size]; exact putL_ten hx
  obtain ⟨p, hp⟩ : ∃ p, p = str (putL x) := ⟨_, rfl⟩
  rw [← hp] at hl HP
  rw [← hp]
  clear hp
  have hsum : s.size + p.size ≤ 9223372036854775807 := by omega
  go_enter Tryd.func35, Tryd.ntmps35
  go_wp2_with fail
  go_region_with (go_at_call 36; (with_reducible refine (HP.out _).mono ?_); rintro e w1 ⟨rfl, hb⟩; have c1 := cell_later hb (by simpa using c); have f1 := (hb.frozen (p := ⟨T, 0, none⟩) (by simpa using hT)).trans f)
  all_goals
    go_wp2
    go_ret
    exact ⟨rfl, w1, (Below.refl _ _).drew.trans hb, rfl⟩

/-- The bytes of the first k amounts. -/
def putV (x : Nat → Nat) : Nat → List UInt8
  | 0 => []
  | k + 1 => putV x k ++ putL (x k)
theorem putV_length {x : Nat → Nat} (hx : ∀ i, i < 4 → x i < 18446744073709551616) : ∀ k, k ≤ 4 → (putV x k).length ≤ 10 * k
  | 0, _ => Nat.le_refl _
  | k + 1, hk => by
    have := putV_length hx k (by omega)
    have := putL_ten (hx k (by omega))
    rw [putV, List.length_append]
    omega
theorem str_append (a b : List UInt8) : str a ++ str b = str (a ++ b) := ByteArray.mk_append_mk a b
def PutLaid (w0 : World) (H : Nat) (x : Nat → Nat) (k : Nat) (w : World) : Prop :=
  Below H w0 w ∧ w.heap[H + 1]? = some (.cells #[.string (str (putV x k))] 9)
theorem put_step {w0 : World} {H : Nat} {x : Nat → Nat} (hx : ∀ i, i < 4 → x i < 18446744073709551616) (k : Nat) (hk : k < 4) (wr : World) (h : PutLaid w0 H x k wr) :
    Calls Tryd.prog 35 (#[.int .i64 k, .int .u64 (x k)] ++ #[.pointer (some ⟨H + 1, 0, none⟩)]) wr (Step (PutLaid w0 H x (k + 1)) (fun _ => False)) := by
  obtain ⟨hb, ht⟩ := h
  have hl : (str (putV x k)).size ≤ 1000 := by rw [str_size]; have := putV_length hx k (by omega); omega
  have hlt : H + 1 < wr.heap.size := World.block_lt_of_cell? wr ⟨H + 1, 0, none⟩ (cell_at ht rfl)
  refine (put1 (H + 1) k (x k) (hx k hk) _ hl wr ht).mono ?_
  rintro e w' ⟨rfl, w1, hb1, rfl⟩
  have ht1 := (hb1.block (H + 1) hlt).trans ht
  refine .inl ⟨rfl, (hb.trans (hb1.mono (by omega))).setCell (by simp) _, ?_⟩
  have := heap_setCell_same w1 (H + 1) 0 _ _ (.string (str (putV x k) ++ str (putL (x k)))) ht1
  rw [str_append] at this ⊢
  exact this

set_option maxRecDepth 100000 in
set_option maxHeartbeats 1000000 in
theorem putV_any (x : Nat → Nat) (hx : ∀ i, i < 4 → x i < 18446744073709551616) (w : World) :
    Calls Tryd.prog 17 #[vec (x 0) (x 1) (x 2) (x 3)] w fun e w' => e = .returned (.string (str (putV x 4))) ∧ Below w.heap.size w w' := by
  have hcl : ∀ (args : Array Value) (w : World), (callFunc 35 args).run Tryd.prog w = .ok (.enter 35 args) w := fun _ _ => by kernel_rfl
  have hat : PutLaid w w.heap.size x 0 (((w.alloc (box (x 0) (x 1) (x 2) (x 3))).alloc (.cells #[.string ⟨#[]⟩] 9)).alloc (box (x 0) (x 1) (x 2) (x 3))) := by
    refine ⟨((((Below.refl _ _).alloc (Nat.le_refl _) _).alloc (by simp) _).alloc (by simp; omega) _), ?_⟩
    rw [heap_alloc_old _ _ (by simp)]
    exact heap_alloc2_new _ _ _
  have HE := Lib.hid (each_any (x 0) (x 1) (x 2) (x 3) 35 #[.pointer (some ⟨w.heap.size + 1, 0, none⟩)] (PutLaid w w.heap.size x) (fun _ => False) _ hcl hat
    (put_step hx 0 (by omega)) (put_step hx 1 (by omega)) (put_step hx 2 (by omega)) (put_step hx 3 (by omega)))
  clear hcl hat
  obtain ⟨r, hr⟩ : ∃ r, r = str (putV x 4) := ⟨_, rfl⟩
  rw [← hr]
  have HR := Lib.hid hr
  clear hr
  unfold vec
  unfold vec box at HE
  go_enter Tryd.func17, Tryd.ntmps17
  go_wp2_with fail
  refine HE.out.mono ?_
  clear HE
  rintro e w1 (⟨rfl, hb, hc⟩ | ⟨rfl, hf⟩)
  · rw [← HR.out] at hc
    have c := cell_at (i := 0) hc rfl
    have f := frozen_at (i := 0) hc
    have HD := Lib.hid (cell_at (i := 0) (heap_setCell_same _ _ 0 _ _ (.string r) hc) rfl)
    have HB := Lib.hid (hb.setCell (p := ⟨w.heap.size + 1, 0, none⟩) (by simp) (.string r))
    clear hc hb
    go_wp2
    refine bodyPost_ret (v := .string r) (by simp [results, Tryd.results17, go_sem, HD.out]) rfl ⟨rfl, HB.out⟩
  · exact hf.elim
end Go.Proofs.YtaljedficmpjpaaDoor.Vec
