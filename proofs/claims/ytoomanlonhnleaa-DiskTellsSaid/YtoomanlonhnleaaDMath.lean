/- A disk of two files by plain functions (chapter 9): what each deed makes of it, and what follows: what was synced stays, files have room, a fuse; of no program. -/
import Derived.KernelRfl
namespace Go.Proofs.Ytoomanlonhnleaa.Disk

/-- A file: what a loss of power leaves, and what stands behind it. -/
structure Fl where
  hard : ByteArray
  soft : ByteArray
def empty : ByteArray := ⟨#[]⟩
structure Dk where
  size : Int
  f0 : Fl
  f1 : Fl
  down : Bool
  fuse : Int
  keep : Int

theorem ext_list (s : ByteArray) (a b : Nat) : (s.extract a b).data.toList = (s.data.toList.drop a).take (b - a) := by
  rw [ByteArray.data_extract, Array.toList_extract, List.extract_eq_take_drop]
theorem app_list (a b : ByteArray) : (a ++ b).data.toList = a.data.toList ++ b.data.toList := by rw [ByteArray.data_append, Array.toList_append]
theorem len_list (a : ByteArray) : a.data.toList.length = a.size := by rw [Array.length_toList]; rfl
theorem same_list {a b : ByteArray} (h : a.data.toList = b.data.toList) : a = b := by
  cases a; cases b
  congr 1
  exact Array.toList_inj.1 h
theorem app_empty (a : ByteArray) : a ++ empty = a := same_list (by rw [app_list]; simp [empty])

/-- The first so many bytes: none below 0, all if there are fewer. -/
def clip (n : Int) (s : ByteArray) : ByteArray := s.extract 0 (min n.toNat s.size)
theorem clip_list (n : Int) (s : ByteArray) : (clip n s).data.toList = s.data.toList.take n.toNat := by
  unfold clip
  rw [ext_list, List.drop_zero, Nat.sub_zero]
  by_cases h : n.toNat ≤ s.size
  · rw [Nat.min_eq_left h]
  · rw [Nat.min_eq_right (by omega), List.take_of_length_le (by rw [len_list]; exact Nat.le_refl _), List.take_of_length_le (by rw [len_list]; omega)]
theorem clip_size (n : Int) (s : ByteArray) : (clip n s).size = min n.toNat s.size := by rw [← len_list, clip_list, List.length_take, len_list]

/-- A beginning. -/
def Pre (b a : ByteArray) : Prop := b.data.toList <+: a.data.toList
theorem Pre.refl (a : ByteArray) : Pre a a := List.prefix_rfl
theorem Pre.trans {a b c : ByteArray} (h : Pre a b) (k : Pre b c) : Pre a c := List.IsPrefix.trans h k
theorem Pre.size {a b : ByteArray} (h : Pre a b) : a.size ≤ b.size := by have := h.length_le; rwa [len_list, len_list] at this
theorem Pre.cut {a b : ByteArray} (h : Pre a b) : b.extract 0 a.size = a := same_list (by
  rw [ext_list, List.drop_zero, Nat.sub_zero, ← len_list a]
  exact (List.prefix_iff_eq_take.1 h).symm)
theorem pre_app (a b : ByteArray) : Pre a (a ++ b) := by unfold Pre; rw [app_list]; exact List.prefix_append _ _
theorem pre_empty (a : ByteArray) : Pre empty a := List.nil_prefix
theorem pre_clip (n : Int) (s : ByteArray) : Pre (clip n s) s := by unfold Pre; rw [clip_list]; exact List.take_prefix _ _
theorem Pre.app_left {a b : ByteArray} (c : ByteArray) (h : Pre a b) : Pre (c ++ a) (c ++ b) := by
  unfold Pre at h ⊢
  rw [app_list, app_list]
  exact (List.prefix_append_right_inj _).2 h
theorem Pre.clip {a b : ByteArray} (n : Int) (h : Pre a b) : Pre (clip n a) (clip n b) := by
  unfold Pre at h ⊢
  rw [clip_list, clip_list]
  obtain ⟨t, ht⟩ := h
  rw [← ht, List.take_append]
  exact List.prefix_append _ _

def Fl.size (f : Fl) : Nat := f.hard.size + f.soft.size
/-- P9.1: what a file reads. -/
def Fl.all (f : Fl) : ByteArray := f.hard ++ f.soft
theorem all_size (f : Fl) : f.all.size = f.size := by unfold Fl.all Fl.size; rw [ByteArray.size_append]
/-- P9.1. -/
def new (size : Int) : Dk := ⟨size, ⟨empty, empty⟩, ⟨empty, empty⟩, false, -1, 0⟩
def used (d : Dk) : Nat := d.f0.size + d.f1.size
def get (d : Dk) (f : Int) : Fl := if f = 0 then d.f0 else d.f1
def put (d : Dk) (f : Int) (x : Fl) : Dk := if f = 0 then { d with f0 := x } else { d with f1 := x }
def read (d : Dk) (f : Int) : ByteArray := if f = 0 then d.f0.all else if f = 1 then d.f1.all else empty
/-- P9.2: what a loss of power leaves of a file. -/
def Fl.lose (keep : Int) (f : Fl) : Fl := ⟨f.hard ++ clip keep f.soft, empty⟩
def crash (d : Dk) (keep : Int) : Dk := { d with f0 := d.f0.lose keep, f1 := d.f1.lose keep, down := true, fuse := -1 }
def arm (d : Dk) (fuse keep : Int) : Dk := { d with fuse := if fuse < 0 then -1 else fuse, keep := keep }
def start (d : Dk) : Dk := { d with down := false }
/-- P9.3: the error, but for room. -/
def refused (d : Dk) (f : Int) : Int := if ¬ (f = 0 ∨ f = 1) then 1 else if d.down = true then 12 else 0
/-- P9.3: as the fuse says. -/
def burnt (d behind broken : Dk) : Dk × Int := if d.fuse = 0 then (crash broken d.keep, 12) else (if 0 < d.fuse then { behind with fuse := d.fuse - 1 } else behind, 0)
def Fl.more (s : ByteArray) (f : Fl) : Fl := ⟨f.hard, f.soft ++ s⟩
def Fl.firm (f : Fl) : Fl := ⟨f.all, empty⟩
def Fl.head (n : Int) (f : Fl) : Fl := ⟨clip n f.hard, clip (n - f.hard.size) f.soft⟩
def write (d : Dk) (f : Int) (s : ByteArray) : Dk × Int :=
  if refused d f = 0 then (if d.size < used d + s.size then (d, 9) else burnt d (put d f ((get d f).more s)) (put d f ((get d f).more s))) else (d, refused d f)
def sync (d : Dk) (f : Int) : Dk × Int := if refused d f = 0 then burnt d (put d f (get d f).firm) d else (d, refused d f)
def cut (d : Dk) (f : Int) (n : Int) : Dk × Int := if refused d f = 0 then burnt d (put d f ((get d f).head n)) d else (d, refused d f)

/-! ### What follows -/
theorem lose_size (keep : Int) (f : Fl) : (f.lose keep).size ≤ f.size := by
  unfold Fl.lose Fl.size
  simp only [ByteArray.size_append, clip_size]
  show _ + 0 ≤ _
  omega
theorem firm_size (f : Fl) : f.firm.size = f.size := by
  unfold Fl.firm Fl.all Fl.size
  simp only [ByteArray.size_append]
  rfl
theorem head_size (n : Int) (f : Fl) : (f.head n).size ≤ f.size := by
  unfold Fl.head Fl.size
  simp only [clip_size]
  omega
theorem more_size (s : ByteArray) (f : Fl) : (f.more s).size = f.size + s.size := by
  unfold Fl.more Fl.size
  simp only [ByteArray.size_append]
  omega
theorem lose_soft (keep : Int) (f : Fl) : (f.lose keep).soft = empty := rfl
/-- What is lost is an end. -/
theorem lose_pre (keep : Int) (f : Fl) : Pre (f.lose keep).all f.all := by
  unfold Fl.lose Fl.all
  rw [app_empty]
  exact (pre_clip _ _).app_left _
/-- What was hard is there. -/
theorem lose_hard (keep : Int) (f : Fl) : Pre f.hard (f.lose keep).hard := pre_app _ _
theorem head_all (n : Int) (f : Fl) : (f.head n).all = clip n f.all := same_list (by
  unfold Fl.head Fl.all
  rw [app_list, clip_list, clip_list, clip_list, app_list, List.take_append]
  congr 2
  rw [len_list]
  omega)
theorem firm_all (f : Fl) : f.firm.all = f.all := by unfold Fl.firm Fl.all; rw [app_empty]
theorem more_all (s : ByteArray) (f : Fl) : (f.more s).all = f.all ++ s := by unfold Fl.more Fl.all; rw [ByteArray.append_assoc]
theorem used_crash (d : Dk) (keep : Int) : used (crash d keep) ≤ used d := by
  have h0 := lose_size keep d.f0
  have h1 := lose_size keep d.f1
  unfold used crash
  simp only
  omega

/-- What is safe of both files. -/
structure Safe (d : Dk) (a b : ByteArray) : Prop where
  s0 : Pre a d.f0.hard
  s1 : Pre b d.f1.hard
theorem Safe.crash {d : Dk} {a b : ByteArray} (h : Safe d a b) (keep : Int) : Safe (crash d keep) a b := ⟨h.s0.trans (lose_hard _ _), h.s1.trans (lose_hard _ _)⟩
theorem safe_new (size : Int) : Safe (new size) empty empty := ⟨pre_empty _, pre_empty _⟩
theorem Safe.arm {d : Dk} {a b : ByteArray} (h : Safe d a b) (f k : Int) : Safe (arm d f k) a b := ⟨h.s0, h.s1⟩
theorem Safe.burnt {d x y : Dk} {a b : ByteArray} (hx : Safe x a b) (hy : Safe y a b) : Safe (burnt d x y).1 a b := by
  unfold Disk.burnt
  split
  · exact hy.crash _
  · split
    · exact ⟨hx.s0, hx.s1⟩
    · exact hx
theorem Safe.write {d : Dk} {a b : ByteArray} (h : Safe d a b) (f : Int) (s : ByteArray) : Safe (write d f s).1 a b := by
  unfold Disk.write
  split
  · split
    · exact h
    · have : Safe (put d f ((get d f).more s)) a b := by
        unfold put get
        split <;> exact ⟨h.s0, h.s1⟩
      exact this.burnt this
  · exact h
/-- What a deed that went well made. -/
theorem burnt_well {d x y : Dk} (h : (burnt d x y).2 = 0) : (burnt d x y).1 = (if 0 < d.fuse then { x with fuse := d.fuse - 1 } else x) ∧ d.fuse ≠ 0 := by
  unfold burnt at h ⊢
  split at h
  · simp at h
  · rename_i hf
    rw [if_neg hf]
    exact ⟨rfl, hf⟩
/-- What a deed that did not go well made: nothing, or what a loss of power leaves. -/
theorem burnt_ill {d x y : Dk} (h : (burnt d x y).2 ≠ 0) : (burnt d x y) = (crash y d.keep, 12) ∧ d.fuse = 0 := by
  unfold burnt at h ⊢
  split at h
  · rename_i hf
    rw [if_pos hf]
    exact ⟨rfl, hf⟩
  · simp at h
theorem refused_ne {d : Dk} {f : Int} (h : refused d f ≠ 0) : refused d f = 1 ∨ refused d f = 12 := by
  unfold refused at h ⊢
  split
  · exact .inl rfl
  · split
    · exact .inr rfl
    · rename_i h1 h2
      rw [if_neg h1, if_neg h2] at h
      exact absurd rfl h
theorem sync_ill {d : Dk} {f : Int} (h : (sync d f).2 ≠ 0) : (sync d f).1 = d ∨ (sync d f).1 = crash d d.keep := by
  unfold sync at h ⊢
  split
  · rename_i hr
    rw [if_pos hr] at h
    exact .inr (by rw [(burnt_ill h).1])
  · exact .inl rfl
theorem cut_ill {d : Dk} {f n : Int} (h : (cut d f n).2 ≠ 0) : (cut d f n).1 = d ∨ (cut d f n).1 = crash d d.keep := by
  unfold cut at h ⊢
  split
  · rename_i hr
    rw [if_pos hr] at h
    exact .inr (by rw [(burnt_ill h).1])
  · exact .inl rfl
theorem sync_well {d : Dk} {f : Int} (h : (sync d f).2 = 0) : (sync d f).1 = (if 0 < d.fuse then { put d f (get d f).firm with fuse := d.fuse - 1 } else put d f (get d f).firm) ∧ refused d f = 0 := by
  unfold sync at h ⊢
  split
  · rename_i hr
    rw [if_pos hr] at h
    exact ⟨(burnt_well h).1, hr⟩
  · rename_i hr
    rw [if_neg hr] at h
    exact absurd h hr
theorem cut_well {d : Dk} {f n : Int} (h : (cut d f n).2 = 0) : (cut d f n).1 = (if 0 < d.fuse then { put d f ((get d f).head n) with fuse := d.fuse - 1 } else put d f ((get d f).head n)) ∧ refused d f = 0 := by
  unfold cut at h ⊢
  split
  · rename_i hr
    rw [if_pos hr] at h
    exact ⟨(burnt_well h).1, hr⟩
  · rename_i hr
    rw [if_neg hr] at h
    exact absurd h hr
theorem Safe.sync0 {d : Dk} {a b : ByteArray} (h : Safe d a b) (hok : (sync d 0).2 = 0) : Safe (sync d 0).1 (read (sync d 0).1 0) b := by
  rw [(sync_well hok).1]
  have e : ∀ x : Fl, x = d.f0.firm → Pre x.all x.hard := fun x hx => by rw [hx, firm_all]; exact Pre.refl _
  split <;> exact ⟨e _ rfl, h.s1⟩
theorem Safe.sync1 {d : Dk} {a b : ByteArray} (h : Safe d a b) (hok : (sync d 1).2 = 0) : Safe (sync d 1).1 a (read (sync d 1).1 1) := by
  rw [(sync_well hok).1]
  have e : ∀ x : Fl, x = d.f1.firm → Pre x.all x.hard := fun x hx => by rw [hx, firm_all]; exact Pre.refl _
  split <;> exact ⟨h.s0, e _ rfl⟩
theorem Safe.syncNo {d : Dk} {a b : ByteArray} (h : Safe d a b) {f : Int} (hno : (sync d f).2 ≠ 0) : Safe (sync d f).1 a b := by
  rcases sync_ill hno with e | e <;> rw [e]
  · exact h
  · exact h.crash _
theorem Safe.cut0 {d : Dk} {a b : ByteArray} (h : Safe d a b) {n : Int} (hok : (cut d 0 n).2 = 0) : Safe (cut d 0 n).1 (clip n a) b := by
  rw [(cut_well hok).1]
  split <;> exact ⟨h.s0.clip n, h.s1⟩
theorem Safe.cut1 {d : Dk} {a b : ByteArray} (h : Safe d a b) {n : Int} (hok : (cut d 1 n).2 = 0) : Safe (cut d 1 n).1 a (clip n b) := by
  rw [(cut_well hok).1]
  split <;> exact ⟨h.s0, h.s1.clip n⟩
theorem Safe.cutNo {d : Dk} {a b : ByteArray} (h : Safe d a b) {f n : Int} (hno : (cut d f n).2 ≠ 0) : Safe (cut d f n).1 a b := by
  rcases cut_ill hno with e | e <;> rw [e]
  · exact h
  · exact h.crash _

/-- Files have room. -/
theorem room_put {d : Dk} {f : Int} {x : Fl} (h : x.size ≤ (get d f).size) : used (put d f x) ≤ used d := by
  unfold used put get at *
  split
  · rename_i hf
    rw [if_pos hf] at h
    simp only
    omega
  · rename_i hf
    rw [if_neg hf] at h
    simp only
    omega
theorem room_more (d : Dk) (f : Int) (s : ByteArray) : used (put d f ((get d f).more s)) = used d + s.size := by
  unfold used put get
  split <;> simp only [more_size] <;> omega
theorem used_fuse (x : Dk) (n : Int) : used { x with fuse := n } = used x := rfl
theorem size_put (d : Dk) (f : Int) (x : Fl) : (put d f x).size = d.size := by unfold put; split <;> rfl
theorem room_burnt {d x y : Dk} {N : Nat} (hx : used x ≤ N) (hy : used y ≤ N) : used (burnt d x y).1 ≤ N := by
  unfold burnt
  split
  · exact Nat.le_trans (used_crash _ _) hy
  · split
    · exact hx
    · exact hx
theorem size_burnt {d x y : Dk} (hx : x.size = d.size) (hy : y.size = d.size) : (burnt d x y).1.size = d.size := by
  unfold burnt
  split
  · exact hy
  · split <;> exact hx
theorem room_write {d : Dk} {N : Nat} (h : used d ≤ N) (hs : d.size = N) (f : Int) (s : ByteArray) : used (write d f s).1 ≤ N ∧ (write d f s).1.size = N := by
  unfold write
  split
  · split
    · exact ⟨h, hs⟩
    · refine ⟨room_burnt ?_ ?_, by rw [size_burnt (size_put _ _ _) (size_put _ _ _), hs]⟩ <;> rw [room_more] <;> omega
  · exact ⟨h, hs⟩
theorem room_sync {d : Dk} {N : Nat} (h : used d ≤ N) (hs : d.size = N) (f : Int) : used (sync d f).1 ≤ N ∧ (sync d f).1.size = N := by
  unfold sync
  split
  · exact ⟨room_burnt (Nat.le_trans (room_put (Nat.le_of_eq (firm_size _))) h) h, by rw [size_burnt (size_put _ _ _) rfl, hs]⟩
  · exact ⟨h, hs⟩
theorem room_cut {d : Dk} {N : Nat} (h : used d ≤ N) (hs : d.size = N) (f n : Int) : used (cut d f n).1 ≤ N ∧ (cut d f n).1.size = N := by
  unfold cut
  split
  · exact ⟨room_burnt (Nat.le_trans (room_put (head_size _ _)) h) h, by rw [size_burnt (size_put _ _ _) rfl, hs]⟩
  · exact ⟨h, hs⟩

/-! ### The forms of the document's own answer -/
theorem clip_none {n : Int} (h : n ≤ 0) (s : ByteArray) : clip n s = empty := same_list (by rw [clip_list, show n.toNat = 0 by omega]; rfl)
theorem clip_whole {n : Int} {s : ByteArray} (h : (s.size : Int) ≤ n) : clip n s = s := same_list (by rw [clip_list, List.take_of_length_le (by rw [len_list]; omega)])
theorem clip_part {n : Int} {s : ByteArray} (h : n ≤ (s.size : Int)) : clip n s = s.extract 0 n.toNat := by unfold clip; rw [Nat.min_eq_left (by omega)]
/-- P9.3: of the file the first n bytes, by the three ways of the document. -/
theorem head_short {n : Int} {f : Fl} (h : n < (f.hard.size : Int)) : f.head n = ⟨clip n f.hard, empty⟩ := by
  unfold Fl.head
  rw [clip_none (n := n - f.hard.size) (by omega)]
theorem head_soft {n : Int} {f : Fl} (h : (f.hard.size : Int) ≤ n) : f.head n = ⟨f.hard, clip (n - f.hard.size) f.soft⟩ := by
  unfold Fl.head
  rw [clip_whole h]
theorem head_long {n : Int} {f : Fl} (h : (f.hard.size : Int) + f.soft.size ≤ n) : f.head n = f := by
  unfold Fl.head
  rw [clip_whole (by omega), clip_whole (by omega)]

/-- A fuse: each deed that goes well takes one; with none left the next one loses power. -/
theorem fuse_well {d x y : Dk} (h : 0 < d.fuse) : burnt d x y = ({ x with fuse := d.fuse - 1 }, 0) := by
  unfold burnt
  rw [if_neg (by omega), if_pos h]
theorem fuse_out {d x y : Dk} (h : d.fuse = 0) : burnt d x y = (crash y d.keep, 12) := by unfold burnt; rw [if_pos h]
theorem fuse_none {d x y : Dk} (h : d.fuse < 0) : burnt d x y = (x, 0) := by
  unfold burnt
  rw [if_neg (by omega), if_neg (by omega)]
/-- Who is down does nothing. -/
theorem down_refused {d : Dk} {f : Int} (h : d.down = true) (hf : f = 0 ∨ f = 1) : refused d f = 12 := by
  unfold refused
  rw [if_neg (fun hn => hn hf), if_pos h]
theorem down_write {d : Dk} {f : Int} (s : ByteArray) (h : d.down = true) (hf : f = 0 ∨ f = 1) : write d f s = (d, 12) := by
  unfold write
  rw [down_refused h hf]
  rfl
theorem down_sync {d : Dk} {f : Int} (h : d.down = true) (hf : f = 0 ∨ f = 1) : sync d f = (d, 12) := by
  unfold sync
  rw [down_refused h hf]
  rfl
theorem down_cut {d : Dk} {f : Int} (n : Int) (h : d.down = true) (hf : f = 0 ∨ f = 1) : cut d f n = (d, 12) := by
  unfold cut
  rw [down_refused h hf]
  rfl
theorem up_refused {d : Dk} {f : Int} (h : d.down = false) (hf : f = 0 ∨ f = 1) : refused d f = 0 := by
  unfold refused
  rw [if_neg (fun hn => hn hf), if_neg (by simp [h])]

/-- What one more loss of power leaves of what was read is a beginning of it, and has what was safe. -/
theorem keeps {d : Dk} {a b : ByteArray} (h : Safe d a b) (keep : Int) :
    Pre a (read (crash d keep) 0) ∧ Pre (read (crash d keep) 0) (read d 0) ∧ Pre b (read (crash d keep) 1) ∧ Pre (read (crash d keep) 1) (read d 1) :=
  ⟨(h.crash keep).s0.trans (pre_app _ _), lose_pre _ _, (h.crash keep).s1.trans (pre_app _ _), lose_pre _ _⟩
end Go.Proofs.Ytoomanlonhnleaa.Disk
