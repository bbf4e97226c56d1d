/- What sel.reader's text takes; of memory the reader's place alone turns. -/
import Derived.Test.YtcgknkbigbbfdaaDoorSReader
namespace Go.Proofs.YtcgknkbigbbfdaaDoor.Sel
open Go.RowKit Go.Proofs.YtcgknkbigbbfdaaDoor.Texts Go.Proofs.YtcgknkbigbbfdaaDoor.Word Go.Proofs.YtcgknkbigbbfdaaDoor.Forms Go.Proofs.YtcgknkbigbbfdaaDoor.Split Go.Proofs.YtcgknkbigbbfdaaDoor.Boxes

set_option maxHeartbeats 1000000 in
set_option maxRecDepth 100000 in
theorem take_yes (R : Nat) (s : ByteArray) (hs : s.size ≤ 9223372036854775807) (p : Int) (t : ByteArray) (q : Int) (h : oneText s p = some (t, q)) (w : World) (hr : Rd R s p w) :
    Calls Tryd.prog 53 #[.pointer (some ⟨R, 0, none⟩)] w (Took R s (.string t) q w) := by
  have HG : Hid (∀ W, Calls Tryd.prog 74 #[.string s, .int .i64 p, .int .i64 32] W fun e w' => e = .returned (.tuple #[.string t, .int .i64 q, .bool true]) ∧ Below W.heap.size W w') := Lib.hid fun W => by
    unfold oneText at h
    split at h
    · simp at h
    rename_i a ha
    simp only [Option.some.injEq, Prod.mk.injEq] at h
    rw [← h.1, ← h.2]
    exact Wire.text_yes s hs p 32 (by omega) a.1 a.2 ha W
  have hR := lt_of hr
  have q0 := Quiet.cell (a := ⟨R, 0, none⟩) hR (cell_at (i := 0) hr rfl)
  have q1 := Quiet.cell (a := ⟨R, 1, none⟩) hR (cell_at (i := 1) hr rfl)
  have HR := Lib.hid hr
  clear h hr
  go_enter Tryd.func53, Tryd.ntmps53
  go_wp2_with fail
  refine Quiet.region (by kernel_rfl) (by kernel_rfl) ?_
  repeat (go_big_quiet_step (first | (go_at_call 74; (with_reducible exact Quiet.calls (HG.out _)))))
  refine wpQuiet_nil ?_
  rintro _ ⟨pq, rfl⟩
  have hq := pq.below
  generalize pq.world = wq at hq ⊢
  have hr2 := HR.out.below hq
  have c1 := cell_at (i := 1) hr2 rfl
  have f1 := frozen_at (i := 1) hr2
  have HR2 := Lib.hid (hr2.set q)
  clear hr2 q0 q1
  go_wp2
  go_ret
  exact ⟨rfl, HR2.out, (But.of_below hq).set 1 _⟩
set_option maxHeartbeats 1000000 in
set_option maxRecDepth 100000 in
theorem take_no (R : Nat) (s : ByteArray) (hs : s.size ≤ 9223372036854775807) (p : Int) (h : oneText s p = none) (w : World) (hr : Rd R s p w) (hE : Err w) :
    Calls Tryd.prog 53 #[.pointer (some ⟨R, 0, none⟩)] w fun e w' => Falls e ∧ Below w.heap.size w w' := by
  have HG : Hid (∀ W, Calls Tryd.prog 74 #[.string s, .int .i64 p, .int .i64 32] W fun e w' => e = .returned (.tuple #[.string ⟨#[]⟩, .int .i64 0, .bool false]) ∧ Below W.heap.size W w') := Lib.hid fun W => by
    unfold oneText at h
    split at h
    · rename_i ha
      exact Wire.text_no s hs p 32 (by omega) ha W
    · simp at h
  have hR := lt_of hr
  have q0 := Quiet.cell (a := ⟨R, 0, none⟩) hR (cell_at (i := 0) hr rfl)
  have q1 := Quiet.cell (a := ⟨R, 1, none⟩) hR (cell_at (i := 1) hr rfl)
  have HE : Hid (∀ W, Below w.heap.size w W → Err W) := Lib.hid fun W h => hE.below h
  clear h hr hE
  go_enter Tryd.func53, Tryd.ntmps53
  go_wp2_with fail
  refine Quiet.region (by kernel_rfl) (by kernel_rfl) ?_
  repeat (go_big_quiet_step (first | (go_at_call 74; (with_reducible exact Quiet.calls (HG.out _)))))
  refine wpQuiet_nil ?_
  rintro _ ⟨pq, rfl⟩
  have hq := pq.below
  generalize pq.world = wq at hq ⊢
  obtain ⟨T, pe, hc⟩ := HE.out _ hq
  clear q0 q1
  go_wp2
  exact ⟨rfl, ⟨T, pe, rfl⟩, hq⟩

/-- The right term that stands at a place. -/
def oneR (s : ByteArray) (p : Int) : Option (Tm × Int) := match oneT s p with
  | none => none
  | some x => if rightT x.1 = true then some x else none
/-- What is told of a term that was taken, or of none. -/
def TookT (R : Nat) (s : ByteArray) (r : Option (Tm × Int)) (w : World) (e : Ending) (w' : World) : Prop := match r with
  | none => Falls e ∧ But R w w'
  | some x => (∃ v, e = .returned v ∧ TNew w.heap.size w' v x.1) ∧ Rd R s x.2 w' ∧ But R w w'

theorem Err.but {R : Nat} {w w' : World} (h : Err w) (hb : But R w w') (hR : 0 ≠ R) : Err w' := by
  obtain ⟨T, p, h⟩ := h
  have hl := World.block_lt_of_cell? w ⟨0, 0, none⟩ h
  exact ⟨T, p, (hb.cell (a := ⟨0, 0, none⟩) hl (by exact hR)).trans h⟩

set_option maxHeartbeats 1000000 in
set_option maxRecDepth 100000 in
theorem term_a (R : Nat) (s : ByteArray) (hs : s.size ≤ 9223372036854775807) (p : Int) (h : oneText s p = none) (w : World) (hr : Rd R s p w) (hE : Err w) :
    Calls Tryd.prog 30 #[.pointer (some ⟨R, 0, none⟩)] w fun e w' => Falls e ∧ But R w w' := by
  have HT : Hid (∀ W, Below w.heap.size w W → Calls Tryd.prog 53 #[.pointer (some ⟨R, 0, none⟩)] W fun e w' => Falls e ∧ Below W.heap.size W w') := Lib.hid fun W hb => take_no R s hs p h W (hr.below hb) (hE.below hb)
  clear h hr hE
  go_enter Tryd.func30, Tryd.ntmps30
  go_wp2_with fail
  with_reducible refine (HT.out _ (grew w _)).mono ?_
  rintro e w1 ⟨⟨T, p3, rfl⟩, hb1⟩
  go_wp2
  exact ⟨rfl, ⟨T, p3, rfl⟩, But.of_below (grows (grew w _) hb1)⟩
set_option maxHeartbeats 1000000 in
set_option maxRecDepth 100000 in
theorem term_b (R : Nat) (s : ByteArray) (hs : s.size ≤ 9223372036854775807) (p : Int) (k : ByteArray) (q1 : Int) (h : oneText s p = some (k, q1)) (w : World) (hr : Rd R s p w) (hE : Err w) (hgR : 0 ≠ R)
    (HN : Hid (∀ W, Rd R s q1 W → Err W → Calls Tryd.prog 29 #[.pointer (some ⟨R, 0, none⟩), .int .u64 9] W fun e w' => Falls e ∧ Below W.heap.size W w')) :
    Calls Tryd.prog 30 #[.pointer (some ⟨R, 0, none⟩)] w fun e w' => Falls e ∧ But R w w' := by
  have HT : Hid (∀ W, Below w.heap.size w W → Calls Tryd.prog 53 #[.pointer (some ⟨R, 0, none⟩)] W (Took R s (.string k) q1 W)) := Lib.hid fun W hb => take_yes R s hs p k q1 h W (hr.below hb)
  have HE : Hid (∀ W, But R w W → Err W) := Lib.hid fun W h => hE.but h hgR
  clear h hr hE
  go_enter Tryd.func30, Tryd.ntmps30
  go_wp2_with fail
  with_reducible refine (HT.out _ (grew w _)).mono ?_
  rintro e w1 ⟨rfl, hr1, hb1⟩
  have HR1 := Lib.hid hr1
  have hb2 : But R w (w1.alloc (.cells #[.string k, .bool false, .slice none 0 0] 51)) := ((But.of_below (grew w _)).trans hb1).trans (But.of_below (old w1 _))
  clear hr1 hb1
  go_wp2_with fail
  with_reducible refine (HN.out _ (HR1.out.below (old w1 _)) (HE.out _ hb2)).mono ?_
  rintro e w3 ⟨⟨T, p3, rfl⟩, hb3⟩
  go_wp2
  exact ⟨rfl, ⟨T, p3, rfl⟩, hb2.trans (But.of_below hb3)⟩
end Go.Proofs.YtcgknkbigbbfdaaDoor.Sel
