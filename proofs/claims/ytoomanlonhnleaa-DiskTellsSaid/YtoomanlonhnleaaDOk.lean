/- What stays true of a disk of which acts are done: what was synced is there, files have room, numbers are of 64 bits; of no program. -/
import Derived.Test.YtoomanlonhnleaaDDisk
import Derived.Test.YtoomanlonhnleaaDMore
namespace Go.Proofs.Ytoomanlonhnleaa.Disk

theorem Fair.put {d : Dk} (h : d.Fair) (f : Int) (x : Fl) : (put d f x).Fair := by
  have hp := put_rest d f x
  refine ⟨?_, ?_, ?_, ?_, ?_, ?_⟩
  · rw [hp.2.2.2]; exact h.s0
  · rw [hp.2.2.2]; exact h.s1
  · rw [hp.2.1]; exact h.f0
  · rw [hp.2.1]; exact h.f1
  · rw [hp.2.2.1]; exact h.k0
  · rw [hp.2.2.1]; exact h.k1
theorem Fair.crash {d : Dk} (h : d.Fair) (k : Int) : (crash d k).Fair := ⟨h.s0, h.s1, show (-9223372036854775808 : Int) ≤ -1 by decide, show (-1 : Int) ≤ 9223372036854775807 by decide, h.k0, h.k1⟩
theorem Fair.burnt {d x y : Dk} (h : d.Fair) (hx : x.Fair) (hy : y.Fair) : (burnt d x y).1.Fair := by
  unfold Disk.burnt
  split
  · exact Fair.crash hy _
  · split
    · have h0 := h.f0
      have h1 := h.f1
      exact ⟨hx.s0, hx.s1, show (-9223372036854775808 : Int) ≤ d.fuse - 1 by omega, show d.fuse - 1 ≤ (9223372036854775807 : Int) by omega, hx.k0, hx.k1⟩
    · exact hx
theorem Fair.write {d : Dk} (h : d.Fair) (f : Int) (s : ByteArray) : (write d f s).1.Fair := by
  unfold Disk.write
  split
  · split
    · exact h
    · exact Fair.burnt h (Fair.put h _ _) (Fair.put h _ _)
  · exact h
theorem Fair.sync {d : Dk} (h : d.Fair) (f : Int) : (sync d f).1.Fair := by
  unfold Disk.sync
  split
  · exact Fair.burnt h (Fair.put h _ _) h
  · exact h
theorem Fair.cut {d : Dk} (h : d.Fair) (f n : Int) : (cut d f n).1.Fair := by
  unfold Disk.cut
  split
  · exact Fair.burnt h (Fair.put h _ _) h
  · exact h
theorem Fair.arm {d : Dk} (h : d.Fair) {f k : Int} (hf0 : -9223372036854775808 ≤ f) (hf1 : f ≤ 9223372036854775807) (hk0 : -9223372036854775808 ≤ k) (hk1 : k ≤ 9223372036854775807) : (arm d f k).Fair := by
  refine ⟨h.s0, h.s1, ?_, ?_, hk0, hk1⟩
  · show (-9223372036854775808 : Int) ≤ if f < 0 then -1 else f
    split <;> omega
  · show (if f < 0 then -1 else f) ≤ (9223372036854775807 : Int)
    split <;> omega
theorem fair_new {n : Int} (h0 : 0 ≤ n) (h1 : n ≤ 100000) : (new n).Fair := ⟨show (-9223372036854775808 : Int) ≤ n by omega, show n ≤ (9223372036854775807 : Int) by omega, show (-9223372036854775808 : Int) ≤ -1 by decide, show (-1 : Int) ≤ 9223372036854775807 by decide, show (-9223372036854775808 : Int) ≤ 0 by decide, show (0 : Int) ≤ 9223372036854775807 by decide⟩

/-- A disk of size N, and what each file had behind its last sync. -/
structure Ok (N : Nat) (d : Dk) (a b : ByteArray) : Prop where
  safe : Safe d a b
  room : used d ≤ N
  size : d.size = N
  fair : d.Fair
theorem ok_new {N : Nat} (h : N ≤ 100000) : Ok N (new N) empty empty := ⟨safe_new _, Nat.zero_le _, rfl, fair_new (by omega) (by omega)⟩
theorem Ok.write {N : Nat} {d : Dk} {a b : ByteArray} (h : Ok N d a b) (f : Int) (s : ByteArray) : Ok N (write d f s).1 a b :=
  ⟨h.safe.write f s, (room_write h.room h.size f s).1, (room_write h.room h.size f s).2, Fair.write h.fair f s⟩
theorem Ok.arm {N : Nat} {d : Dk} {a b : ByteArray} (h : Ok N d a b) {f k : Int} (hf0 : -9223372036854775808 ≤ f) (hf1 : f ≤ 9223372036854775807) (hk0 : -9223372036854775808 ≤ k) (hk1 : k ≤ 9223372036854775807) : Ok N (arm d f k) a b :=
  ⟨h.safe.arm f k, h.room, h.size, Fair.arm h.fair hf0 hf1 hk0 hk1⟩
theorem Ok.start {N : Nat} {d : Dk} {a b : ByteArray} (h : Ok N d a b) : Ok N (start d) a b := ⟨⟨h.safe.s0, h.safe.s1⟩, h.room, h.size, ⟨h.fair.s0, h.fair.s1, h.fair.f0, h.fair.f1, h.fair.k0, h.fair.k1⟩⟩
theorem Ok.sync0 {N : Nat} {d : Dk} {a b : ByteArray} (h : Ok N d a b) (hok : (sync d 0).2 = 0) : Ok N (sync d 0).1 (read (sync d 0).1 0) b :=
  ⟨h.safe.sync0 hok, (room_sync h.room h.size 0).1, (room_sync h.room h.size 0).2, Fair.sync h.fair 0⟩
theorem Ok.sync1 {N : Nat} {d : Dk} {a b : ByteArray} (h : Ok N d a b) (hok : (sync d 1).2 = 0) : Ok N (sync d 1).1 a (read (sync d 1).1 1) :=
  ⟨h.safe.sync1 hok, (room_sync h.room h.size 1).1, (room_sync h.room h.size 1).2, Fair.sync h.fair 1⟩
theorem Ok.syncNo {N : Nat} {d : Dk} {a b : ByteArray} (h : Ok N d a b) {f : Int} (hno : (sync d f).2 ≠ 0) : Ok N (sync d f).1 a b :=
  ⟨h.safe.syncNo hno, (room_sync h.room h.size f).1, (room_sync h.room h.size f).2, Fair.sync h.fair f⟩
theorem Ok.cut0 {N : Nat} {d : Dk} {a b : ByteArray} (h : Ok N d a b) {n : Int} (hok : (cut d 0 n).2 = 0) : Ok N (cut d 0 n).1 (clip n a) b :=
  ⟨h.safe.cut0 hok, (room_cut h.room h.size 0 n).1, (room_cut h.room h.size 0 n).2, Fair.cut h.fair 0 n⟩
theorem Ok.cut1 {N : Nat} {d : Dk} {a b : ByteArray} (h : Ok N d a b) {n : Int} (hok : (cut d 1 n).2 = 0) : Ok N (cut d 1 n).1 a (clip n b) :=
  ⟨h.safe.cut1 hok, (room_cut h.room h.size 1 n).1, (room_cut h.room h.size 1 n).2, Fair.cut h.fair 1 n⟩
theorem Ok.cutNo {N : Nat} {d : Dk} {a b : ByteArray} (h : Ok N d a b) {f n : Int} (hno : (cut d f n).2 ≠ 0) : Ok N (cut d f n).1 a b :=
  ⟨h.safe.cutNo hno, (room_cut h.room h.size f n).1, (room_cut h.room h.size f n).2, Fair.cut h.fair f n⟩
theorem Ok.small {N : Nat} {d : Dk} {a b : ByteArray} (h : Ok N d a b) : a.size ≤ N ∧ b.size ≤ N := by
  have h0 := h.safe.s0.size
  have h1 := h.safe.s1.size
  have hr := h.room
  unfold used Fl.size at hr
  omega
end Go.Proofs.Ytoomanlonhnleaa.Disk
