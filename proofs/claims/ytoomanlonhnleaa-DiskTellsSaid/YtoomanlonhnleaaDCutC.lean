/- What the closure of disk.Cut makes of a file: the first bytes of both parts. -/
import Derived.Test.YtoomanlonhnleaaDHard
import Derived.Test.YtoomanlonhnleaaHeld
namespace Go.Proofs.Ytoomanlonhnleaa.Disk
open Go.RowKit

set_option maxHeartbeats 2000000 in
theorem cut1_any (x : Fl) (n : Int) (hn0 : 0 ≤ n) (hn1 : n ≤ 9223372036854775807) (hx : x.size ≤ 4611686018427387904) (q : Addr) (w : World) (hq : q.block < w.heap.size) (hs : w.cell? q = some (.int .i64 n)) :
    Calls Try.prog 37 #[valF x, .pointer (some q)] w fun e w' => e = .returned (valF (x.head n)) ∧ Below w.heap.size w w' := by
  have H1 := Lib.hid (first_any x.hard (by unfold Fl.size at hx; omega) n)
  have H2 := Lib.hid (first_any x.soft (by unfold Fl.size at hx; omega) (n - x.hard.size))
  have hsz : x.hard.size ≤ 4611686018427387904 := by unfold Fl.size at hx; omega
  obtain ⟨a, b⟩ := x
  unfold valF Fl.head
  dsimp only at H1 H2 hsz ⊢
  obtain ⟨c, hc⟩ : ∃ c, clip n a = c := ⟨_, rfl⟩
  obtain ⟨d, hd⟩ : ∃ d, clip (n - a.size) b = d := ⟨_, rfl⟩
  rw [hc] at H1 ⊢
  rw [hd] at H2 ⊢
  clear hc hd
  have hwrap : IntKind.i64.wrap (n - (a.size : Int)) = n - (a.size : Int) := by rw [IntKind.wrap_i64]; omega
  rw [← hwrap] at H2
  clear hwrap
  have hq0 : q.block ≠ w.heap.size := by omega
  have hq1 : q.block ≠ w.heap.size + 1 := by omega
  have hcell : ∀ o p : Obj, ((w.alloc o).alloc p).cell? q = some (.int .i64 n) := fun o p => by
    rw [((Boxes.old w o).trans ((Boxes.old (w.alloc o) p).mono (Boxes.old w o).size)).cell hq, hs]
  go_enter Try.func37, Try.ntmps37
  go_wp2_with fail
  have hS : ((w.alloc (.cells #[.string a, .string b] 23)).alloc (.cells #[.string ⟨#[]⟩, .string ⟨#[]⟩] 23)).cell? ⟨w.heap.size, 0, none⟩ = some (.string a) ∧
      ((w.alloc (.cells #[.string a, .string b] 23)).alloc (.cells #[.string ⟨#[]⟩, .string ⟨#[]⟩] 23)).cell? ⟨w.heap.size, 1, none⟩ = some (.string b) ∧
      ((w.alloc (.cells #[.string a, .string b] 23)).alloc (.cells #[.string ⟨#[]⟩, .string ⟨#[]⟩] 23)).cell? q = some (.int .i64 n) := by
    have hk := Boxes.keep (Boxes.fresh w (.cells #[.string a, .string b] 23)) (Boxes.old _ (.cells #[.string ⟨#[]⟩, .string ⟨#[]⟩] 23))
    exact ⟨(cells2 hk).1, (cells2 hk).2, hcell _ _⟩
  have hR : ((w.alloc (.cells #[.string a, .string b] 23)).alloc (.cells #[.string ⟨#[]⟩, .string ⟨#[]⟩] 23)).heap[w.heap.size + 1]? = some (.cells #[.string ⟨#[]⟩, .string ⟨#[]⟩] 23) := Boxes.fresh1 _ _ _
  have hBl : Below w.heap.size w ((w.alloc (.cells #[.string a, .string b] 23)).alloc (.cells #[.string ⟨#[]⟩, .string ⟨#[]⟩] 23)) := (Boxes.old _ _).trans ((Boxes.old _ _).mono (Boxes.old _ _).size)
  obtain ⟨W, hW⟩ : ∃ W, W = (w.alloc (.cells #[.string a, .string b] 23)).alloc (.cells #[.string ⟨#[]⟩, .string ⟨#[]⟩] 23) := ⟨_, rfl⟩
  rw [← hW] at hS hR hBl ⊢
  clear hW hcell
  have HSd : W.drew.cell? ⟨w.heap.size, 0, none⟩ = some (.string a) ∧ W.drew.cell? ⟨w.heap.size, 1, none⟩ = some (.string b) ∧ W.drew.cell? q = some (.int .i64 n) := hS
  have HRd : W.drew.heap[w.heap.size + 1]? = some (.cells #[.string ⟨#[]⟩, .string ⟨#[]⟩] 23) := hR
  have hf := thaw hR
  obtain ⟨r0, r1⟩ := cells2 hR
  obtain ⟨e0, e1⟩ := cells2 (set2 hR (.string c) (.string d))
  refine Held.start (m := 13) (S := fun x => x.cell? ⟨w.heap.size, 0, none⟩ = some (.string a) ∧ x.cell? ⟨w.heap.size, 1, none⟩ = some (.string b) ∧ x.cell? q = some (.int .i64 n)) (by kernel_rfl) HSd (fun hHeld => ?_)
  (refine Held.take (i := 0) (v := ?_) rfl (by kernel_rfl) (by kernel_rfl) (by kernel_rfl) (by kernel_rfl) (by kernel_rfl) (fun _ _ _ h => h) (Or.inl ⟨by rfl, ?_⟩) hHeld ?_; rotate_left; focus (intro w hSw; (try dsimp only at hSw); go_simp; try with_reducible rfl))
  (refine Held.take (i := 1) (v := ?_) rfl (by kernel_rfl) (by kernel_rfl) (by kernel_rfl) (by kernel_rfl) (by kernel_rfl) (fun _ _ _ h => h) (Or.inl ⟨by rfl, ?_⟩) hHeld ?_; rotate_left; focus (intro w hSw; (try dsimp only at hSw); go_simp; try with_reducible rfl))
  (refine Held.take (i := 2) (v := ?_) rfl (by kernel_rfl) (by kernel_rfl) (by kernel_rfl) (by kernel_rfl) (by kernel_rfl) (fun _ _ _ h => h) (Or.inl ⟨by rfl, ?_⟩) hHeld ?_; rotate_left; focus (intro w hSw; (try dsimp only at hSw); go_simp; try with_reducible rfl))
  (refine Held.take (i := 4) (v := ?_) rfl (by kernel_rfl) (by kernel_rfl) (by kernel_rfl) (by kernel_rfl) (by kernel_rfl) (fun _ _ _ h => h) (Or.inl ⟨by rfl, ?_⟩) hHeld ?_; rotate_left; focus (intro w hSw; (try dsimp only at hSw); go_simp; try with_reducible rfl))
  (refine Held.take (i := 5) (v := ?_) rfl (by kernel_rfl) (by kernel_rfl) (by kernel_rfl) (by kernel_rfl) (by kernel_rfl) (fun _ _ _ h => h) (Or.inl ⟨by rfl, ?_⟩) hHeld ?_; rotate_left; focus (intro w hSw; (try dsimp only at hSw); go_simp; try with_reducible rfl))
  (refine Held.take (i := 6) (v := ?_) rfl (by kernel_rfl) (by kernel_rfl) (by kernel_rfl) (by kernel_rfl) (by kernel_rfl) (fun _ _ _ h => h) (Or.inl ⟨by rfl, ?_⟩) hHeld ?_; rotate_left; focus (intro w hSw; (try dsimp only at hSw); go_simp; try with_reducible rfl))
  (refine Held.take (i := 7) (v := ?_) rfl (by kernel_rfl) (by kernel_rfl) (by kernel_rfl) (by kernel_rfl) (by kernel_rfl) (fun _ _ _ h => h) (Or.inl ⟨by rfl, ?_⟩) hHeld ?_; rotate_left; focus (intro w hSw; (try dsimp only at hSw); go_simp; try with_reducible rfl))
  (refine Held.take (i := 8) (v := ?_) rfl (by kernel_rfl) (by kernel_rfl) (by kernel_rfl) (by kernel_rfl) (by kernel_rfl) (fun _ _ _ h => h) (Or.inl ⟨by rfl, ?_⟩) hHeld ?_; rotate_left; focus (intro w hSw; (try dsimp only at hSw); go_simp; try with_reducible rfl))
  (refine Held.take (i := 9) (v := ?_) rfl (by kernel_rfl) (by kernel_rfl) (by kernel_rfl) (by kernel_rfl) (by kernel_rfl) (fun _ _ _ h => h) (Or.inl ⟨by rfl, ?_⟩) hHeld ?_; rotate_left; focus (intro w hSw; (try dsimp only at hSw); go_simp; try with_reducible rfl))
  (refine Held.take (i := 10) (v := ?_) rfl (by kernel_rfl) (by kernel_rfl) (by kernel_rfl) (by kernel_rfl) (by kernel_rfl) (fun _ _ _ h => h) (Or.inl ⟨by rfl, ?_⟩) hHeld ?_; rotate_left; focus (intro w hSw; (try dsimp only at hSw); go_simp; try with_reducible rfl))
  (refine Held.ready (rs := [3]) (by kernel_rfl) (by simp) ?_; refine Held.Ready.cons rfl (fun K hK => ?_) Held.Ready.nil; go_simp; go_at_call 38; (with_reducible refine (H1.out _).mono ?_); rintro e w5 ⟨rfl, rfl⟩; refine hK.out _ _ HSd (fun hHeld => ?_); clear hK K)
  (refine Held.ready (rs := [11]) (by kernel_rfl) (by simp) ?_; refine Held.Ready.cons rfl (fun K hK => ?_) Held.Ready.nil; go_simp; go_at_call 38; (with_reducible refine (H2.out _).mono ?_); rintro e w5 ⟨rfl, rfl⟩; refine hK.out _ _ HSd (fun hHeld => ?_); clear hK K)
  (refine Held.take (i := 12) (v := ?_) rfl (by kernel_rfl) (by kernel_rfl) (by kernel_rfl) (by kernel_rfl) (by kernel_rfl) (fun _ _ _ h => h) (Or.inl ⟨by rfl, ?_⟩) hHeld ?_; rotate_left; focus (intro w hSw; (try dsimp only at hSw); go_simp; try with_reducible rfl))
  (refine Held.ready (rs := [13]) (by kernel_rfl) (by simp) ?_; refine Held.Ready.last rfl (fun K hK => ?_); go_simp; refine hK.out _ _ ?_; clear hK K)
  refine Held.done (by kernel_rfl) ?_ _
  go_wp2
  refine bodyPost_ret (v := .agg #[.string c, .string d]) (by simp [results, Try.results37, go_sem, e0, e1]) rfl ⟨rfl, ?_⟩
  exact ((hBl.drew).setCell (by simp) _).setCell (by simp) _
end Go.Proofs.Ytoomanlonhnleaa.Disk
