/- Fuses that many deeds go well with, and reading what was written, by the plain functions of a disk; of no program. -/
import Derived.Test.YtoomanlonhnleaaDMath
namespace Go.Proofs.Ytoomanlonhnleaa.Disk

theorem get_put (d : Dk) {f : Int} (x : Fl) : get (put d f x) f = x := by
  unfold get put
  by_cases h : f = 0
  · rw [if_pos h, if_pos h]
  · rw [if_neg h, if_neg h]
theorem read_get (d : Dk) {f : Int} (hf : f = 0 ∨ f = 1) : read d f = (get d f).all := by
  unfold read get
  rcases hf with rfl | rfl
  · rfl
  · rfl
theorem read_none (d : Dk) {f : Int} (h0 : f ≠ 0) (h1 : f ≠ 1) : read d f = empty := by
  unfold read
  rw [if_neg h0, if_neg h1]
theorem put_rest (d : Dk) (f : Int) (x : Fl) : (put d f x).down = d.down ∧ (put d f x).fuse = d.fuse ∧ (put d f x).keep = d.keep ∧ (put d f x).size = d.size := by
  unfold put
  split <;> exact ⟨rfl, rfl, rfl, rfl⟩
theorem put_get (d : Dk) (f : Int) : put d f (get d f) = d := by
  unfold put get
  split <;> rfl
/-- A file of a disk is another one's, too. -/
theorem get_other (d : Dk) {f g : Int} (x : Fl) (hf : f = 0 ∨ f = 1) (hg : g = 0 ∨ g = 1) (h : f ≠ g) : get (put d f x) g = get d g := by
  unfold get put
  rcases hf with rfl | rfl <;> rcases hg with rfl | rfl <;> first | exact absurd rfl h | rfl

/-! ### With a fuse: each deed takes one, the last one loses power -/
/-- A deed of DiskFuse: two bytes more, synced, or cut to three. -/
def deed (d : Dk) (f : Int) (two : ByteArray) : Nat → Dk × Int
  | 0 => write d f two
  | 1 => sync d f
  | _ => cut d f 3
/-- So far all went well. -/
structure Well (d : Dk) (left i : Nat) (keep : Int) : Prop where
  down : d.down = false
  fuse : d.fuse = left
  kept : d.keep = keep
  room : used d ≤ 2 * i
  size : d.size = 1000
theorem well_start (left : Nat) (keep : Int) : Well (arm (new 1000) left keep) left 0 keep :=
  ⟨rfl, by unfold arm; rw [if_neg (by omega)], rfl, Nat.le_refl _, rfl⟩
theorem deed_form (d : Dk) {f : Int} (hf : f = 0 ∨ f = 1) (hd : d.down = false) (two : ByteArray) (k : Nat) (hroom : ¬ d.size < ((used d + two.size : Nat) : Int)) :
    ∃ x y : Dk, deed d f two k = burnt d x y ∧ used x ≤ used d + two.size ∧ used y ≤ used d + two.size ∧ x.down = d.down ∧ x.keep = d.keep ∧ x.size = d.size ∧ y.size = d.size ∧ x.fuse = d.fuse := by
  have hr := up_refused hd hf
  match k with
  | 0 =>
    refine ⟨put d f ((get d f).more two), put d f ((get d f).more two), ?_, Nat.le_of_eq (room_more _ _ _), Nat.le_of_eq (room_more _ _ _), (put_rest _ _ _).1, (put_rest _ _ _).2.2.1, (put_rest _ _ _).2.2.2, (put_rest _ _ _).2.2.2, (put_rest _ _ _).2.1⟩
    show write d f two = _
    unfold write
    rw [if_pos hr, if_neg (by simpa using hroom)]
  | 1 =>
    refine ⟨put d f (get d f).firm, d, ?_, Nat.le_trans (room_put (Nat.le_of_eq (firm_size _))) (by omega), by omega, (put_rest _ _ _).1, (put_rest _ _ _).2.2.1, (put_rest _ _ _).2.2.2, rfl, (put_rest _ _ _).2.1⟩
    show sync d f = _
    unfold sync
    rw [if_pos hr]
  | n + 2 =>
    refine ⟨put d f ((get d f).head 3), d, ?_, Nat.le_trans (room_put (head_size _ _)) (by omega), by omega, (put_rest _ _ _).1, (put_rest _ _ _).2.2.1, (put_rest _ _ _).2.2.2, rfl, (put_rest _ _ _).2.1⟩
    show cut d f 3 = _
    unfold cut
    rw [if_pos hr]
/-- With some left a deed goes well, and takes one. -/
theorem well_step {d : Dk} {left i : Nat} {keep : Int} (h : Well d (left + 1) i keep) {f : Int} (hf : f = 0 ∨ f = 1) {two : ByteArray} (h2 : two.size = 2) (hi : i ≤ 20) (k : Nat) :
    (deed d f two k).2 = 0 ∧ Well (deed d f two k).1 left (i + 1) keep := by
  have hz := h.size
  have hr := h.room
  have hfu := h.fuse
  obtain ⟨x, y, e, rx, _, dx, kx, sx, _, _⟩ := deed_form d hf h.down two k (by omega)
  have hk : x.keep = keep := kx.trans h.kept
  have hs : x.size = 1000 := sx.trans hz
  have hd : x.down = false := dx.trans h.down
  rw [e, fuse_well (by omega)]
  refine ⟨rfl, ⟨hd, ?_, hk, ?_, hs⟩⟩
  · show d.fuse - 1 = _
    omega
  · show used x ≤ _
    omega
/-- With none left power is lost. -/
theorem well_out {d : Dk} {i : Nat} {keep : Int} (h : Well d 0 i keep) {f : Int} (hf : f = 0 ∨ f = 1) {two : ByteArray} (h2 : two.size = 2) (hi : i ≤ 20) (k : Nat) :
    (deed d f two k).2 = 12 ∧ (deed d f two k).1.down = true ∧ (deed d f two k).1.fuse = -1 ∧ used (deed d f two k).1 ≤ 2 * i + 2 ∧ (deed d f two k).1.size = 1000 := by
  have hz := h.size
  have hr := h.room
  have hfu := h.fuse
  obtain ⟨x, y, e, _, ry, _, _, _, sy, _⟩ := deed_form d hf h.down two k (by omega)
  have hs : y.size = 1000 := sy.trans hz
  rw [e, fuse_out (by omega)]
  have := used_crash y d.keep
  refine ⟨rfl, rfl, rfl, ?_, hs⟩
  show used (crash y d.keep) ≤ _
  omega
/-- Started again, with no fuse, a byte is written. -/
theorem started_write {d : Dk} {f : Int} (hf : f = 0 ∨ f = 1) (s : ByteArray) (hfu : d.fuse = -1) (hroom : ¬ d.size < ((used d + s.size : Nat) : Int)) :
    (write (start d) f s).2 = 0 ∧ (write (start d) f s).1 = put (start d) f ((get (start d) f).more s) := by
  have hr : refused (start d) f = 0 := up_refused rfl hf
  have e : write (start d) f s = burnt (start d) (put (start d) f ((get (start d) f).more s)) (put (start d) f ((get (start d) f).more s)) := by
    unfold write
    rw [if_pos hr, if_neg (show ¬ (start d).size < used (start d) + s.size by rw [Int.natCast_add] at hroom; exact hroom)]
  have hn : (start d).fuse < 0 := by show d.fuse < 0; omega
  rw [e, fuse_none hn]
  exact ⟨rfl, rfl⟩

/-! ### With no fuse, and not down: what is written is read -/
theorem write_plain {d : Dk} {f : Int} (hf : f = 0 ∨ f = 1) (s : ByteArray) (hd : d.down = false) (hfu : d.fuse < 0) :
    write d f s = if d.size < used d + s.size then (d, 9) else (put d f ((get d f).more s), 0) := by
  unfold write
  rw [if_pos (up_refused hd hf), fuse_none hfu]
theorem sync_plain {d : Dk} {f : Int} (hf : f = 0 ∨ f = 1) (hd : d.down = false) (hfu : d.fuse < 0) : sync d f = (put d f (get d f).firm, 0) := by
  unfold sync
  rw [if_pos (up_refused hd hf), fuse_none hfu]
theorem cut_plain {d : Dk} {f : Int} (hf : f = 0 ∨ f = 1) (n : Int) (hd : d.down = false) (hfu : d.fuse < 0) : cut d f n = (put d f ((get d f).head n), 0) := by
  unfold cut
  rw [if_pos (up_refused hd hf), fuse_none hfu]
theorem read_put {d : Dk} {f : Int} (hf : f = 0 ∨ f = 1) (x : Fl) : read (put d f x) f = x.all := by rw [read_get _ hf, get_put]
theorem read_crash {d : Dk} {f : Int} (hf : f = 0 ∨ f = 1) (keep : Int) : read (crash d keep) f = ((get d f).lose keep).all := by
  rw [read_get _ hf]
  unfold get crash
  split <;> rfl
/-- A file that was synced is there whatever is kept. -/
theorem lose_firm (keep : Int) (f : Fl) : (f.firm.lose keep).all = f.all := by
  unfold Fl.lose Fl.firm
  show (f.all ++ clip keep empty) ++ empty = _
  rw [app_empty]
  refine same_list ?_
  rw [app_list, clip_list]
  simp [empty]
end Go.Proofs.Ytoomanlonhnleaa.Disk
