/- What sel.holds and sel.Match answer of any terms and labels; of memory that was there nothing turns. -/
import Derived.Test.YtcgknkbigbbfdaaDoorSKind
namespace Go.Proofs.YtcgknkbigbbfdaaDoor.Sel
open Go.RowKit Go.Proofs.YtcgknkbigbbfdaaDoor.Texts Go.Proofs.YtcgknkbigbbfdaaDoor.Word Go.Proofs.YtcgknkbigbbfdaaDoor.Label

theorem three_cells {w : World} {g : Nat} {a b c : Value} {T : TypeId} (h : w.heap[g]? = some (.cells #[a, b, c] T)) : w.cell? ⟨g, 0, none⟩ = some a ∧ w.cell? ⟨g, 1, none⟩ = some b ∧ w.cell? ⟨g, 2, none⟩ = some c := by
  simp [World.cell?, h]
theorem cell_new {w : World} {a b c : Value} {T : TypeId} {w' : World} (hb : Below (w.alloc (.cells #[a, b, c] T)).heap.size (w.alloc (.cells #[a, b, c] T)) w') : w.heap.size < w'.heap.size ∧ w'.cell? ⟨w.heap.size, 0, none⟩ = some a ∧ w'.cell? ⟨w.heap.size, 1, none⟩ = some b ∧ w'.cell? ⟨w.heap.size, 2, none⟩ = some c := by
  obtain ⟨h0, h1, h2⟩ := three_cells (heap_alloc_new w (.cells #[a, b, c] T))
  have hs : (w.alloc (.cells #[a, b, c] T)).heap.size = w.heap.size + 1 := Array.size_push ..
  have := hb.size
  exact ⟨by omega, (hb.cell (p := ⟨w.heap.size, 0, none⟩) (by rw [hs]; simp)).trans h0, (hb.cell (p := ⟨w.heap.size, 1, none⟩) (by rw [hs]; simp)).trans h1, (hb.cell (p := ⟨w.heap.size, 2, none⟩) (by rw [hs]; simp)).trans h2⟩
theorem method_none (f : Nat) (w : World) : (method (f + 1) 115 (.agg #[]) "demesne/sel.lets").run Tryd.prog w = .ok (120, .agg #[]) w := by kernel_rfl
theorem method_some (f : Nat) (v : Value) (w : World) : (method (f + 1) 104 v "demesne/sel.lets").run Tryd.prog w = .ok (116, v) w := by kernel_rfl
theorem grows {a b c : World} (h1 : Below a.heap.size a b) (h2 : Below b.heap.size b c) : Below a.heap.size a c := h1.trans (h2.mono h1.size)
theorem grew (w : World) (o : Obj) : Below w.heap.size w (w.alloc o) := (Below.refl _ _).alloc (Nat.le_refl _) _

set_option maxHeartbeats 1000000 in
set_option maxRecDepth 100000 in
theorem holds_no (k : ByteArray) (n : Bool) (s pv : Value) (ps : List Pr) (w : World) (hp : Row w pv ps) (hpl : ps.length ≤ 4611686018427387904) (hf : findL ps k = none) :
    Calls Tryd.prog 41 #[.agg #[.string k, .bool n, s], pv] w fun e w' => e = .returned (.bool n) ∧ Below w.heap.size w w' := by
  have HF := Lib.hid (fun W (hW : Row W pv ps) => find_any pv ps k W hW hpl)
  rw [hf] at HF
  change Hid (∀ W (hW : Row W pv ps), Calls _ _ _ W fun e w' => e = .returned (.tuple #[.string ⟨#[]⟩, .bool false]) ∧ _) at HF
  have HP := Lib.hid hp
  clear hp hf
  go_enter Tryd.func41, Tryd.ntmps41
  go_wp2_with fail
  refine (HF.out _ (HP.out.below (grew w _))).mono ?_
  rintro e w1 ⟨rfl, hb1⟩
  obtain ⟨hB, c0, c1, c2⟩ := cell_new hb1
  have hb := grows (grew w _) hb1
  clear hb1 HF
  have q0 := Quiet.cell (a := ⟨w.heap.size, 0, none⟩) hB c0
  have q1 := Quiet.cell (a := ⟨w.heap.size, 1, none⟩) hB c1
  have q2 := Quiet.cell (a := ⟨w.heap.size, 2, none⟩) hB c2
  clear c0 c1 c2
  go_wp2_with fail
  refine Quiet.region (by kernel_rfl) (by kernel_rfl) ?_
  repeat (go_big_quiet_step (fail))
  refine wpQuiet_nil ?_
  rintro _ ⟨pq, rfl⟩
  have hq := pq.below
  generalize pq.world = wq at hq ⊢
  go_wp2
  go_ret
  refine ⟨?_, grows hb hq⟩
  cases n <;> rfl

set_option maxHeartbeats 1000000 in
set_option maxRecDepth 100000 in
theorem holds_any (k x : ByteArray) (n : Bool) (a : Option Addr) (cap : Nat) (pv : Value) (ps : List Pr) (w : World) (hp : Row w pv ps) (hpl : ps.length ≤ 4611686018427387904) (hf : findL ps k = some x) :
    Calls Tryd.prog 41 #[.agg #[.string k, .bool n, .slice a 0 cap], pv] w fun e w' => e = .returned (.bool (!n)) ∧ Below w.heap.size w w' := by
  have HF := Lib.hid (fun W (hW : Row W pv ps) => find_any pv ps k W hW hpl)
  rw [hf] at HF
  change Hid (∀ W (hW : Row W pv ps), Calls _ _ _ W fun e w' => e = .returned (.tuple #[.string x, .bool true]) ∧ _) at HF
  have HP := Lib.hid hp
  clear hp hf
  have hmt := method_none
  go_enter Tryd.func41, Tryd.ntmps41
  go_wp2_with fail
  refine (HF.out _ (HP.out.below (grew w _))).mono ?_
  rintro e w1 ⟨rfl, hb1⟩
  obtain ⟨hB, c0, c1, c2⟩ := cell_new hb1
  have hb := grows (grew w _) hb1
  clear hb1 HF
  have q0 := Quiet.cell (a := ⟨w.heap.size, 0, none⟩) hB c0
  have q1 := Quiet.cell (a := ⟨w.heap.size, 1, none⟩) hB c1
  have q2 := Quiet.cell (a := ⟨w.heap.size, 2, none⟩) hB c2
  clear c0 c1 c2
  go_wp2_with fail
  refine Quiet.region (by kernel_rfl) (by kernel_rfl) ?_
  repeat (go_big_quiet_step (first | (go_at_call 66; (with_reducible exact Quiet.calls (kind_none k n a cap _))) | (go_at_call 120; (with_reducible exact Quiet.calls (lets_none x _)))))
  refine wpQuiet_nil ?_
  rintro _ ⟨pq, rfl⟩
  have hq := pq.below
  generalize pq.world = wq at hq ⊢
  go_wp2
  go_ret
  refine ⟨?_, grows hb hq⟩
  cases n <;> rfl

set_option maxHeartbeats 1000000 in
set_option maxRecDepth 100000 in
theorem holds_some (k x : ByteArray) (n : Bool) (a : Option Addr) (cap : Nat) (vs : List ByteArray) (hv0 : 0 < vs.length) (hvl : vs.length ≤ 4611686018427387904) (pv : Value) (ps : List Pr) (w : World) (hs : SRow w (.slice a vs.length cap) vs) (hp : Row w pv ps) (hpl : ps.length ≤ 4611686018427387904) (hf : findL ps k = some x) :
    Calls Tryd.prog 41 #[.agg #[.string k, .bool n, .slice a vs.length cap], pv] w fun e w' => e = .returned (.bool (among x vs != n)) ∧ Below w.heap.size w w' := by
  have HF := Lib.hid (fun W (hW : Row W pv ps) => find_any pv ps k W hW hpl)
  rw [hf] at HF
  change Hid (∀ W (hW : Row W pv ps), Calls _ _ _ W fun e w' => e = .returned (.tuple #[.string x, .bool true]) ∧ _) at HF
  have HP := Lib.hid hp
  have HS := Lib.hid hs
  obtain ⟨r, hr⟩ : ∃ r, among x vs = r := ⟨_, rfl⟩
  have HL : Hid (∀ W W', SRow W (.slice a vs.length cap) vs → Below W.heap.size W W' → Calls Tryd.prog 116 #[.slice a vs.length cap, .string x] W' fun e w' => e = .returned (.bool r) ∧ Below W'.heap.size W' w') := Lib.hid fun W W' h hb => by
    rw [← hr]
    refine (lets_some _ vs x W' (h.below hb) hvl).mono ?_
    rintro e w' ⟨rfl, rfl⟩
    exact ⟨rfl, Below.refl _ _⟩
  rw [hr]
  clear hp hf hs hr
  have hmt := method_some
  go_enter Tryd.func41, Tryd.ntmps41
  go_wp2_with fail
  refine (HF.out _ (HP.out.below (grew w _))).mono ?_
  rintro e w1 ⟨rfl, hb1⟩
  obtain ⟨hB, c0, c1, c2⟩ := cell_new hb1
  have hb := grows (grew w _) hb1
  have HS1 := Lib.hid (HS.out.below hb)
  clear hb1 HF
  have q0 := Quiet.cell (a := ⟨w.heap.size, 0, none⟩) hB c0
  have q1 := Quiet.cell (a := ⟨w.heap.size, 1, none⟩) hB c1
  have q2 := Quiet.cell (a := ⟨w.heap.size, 2, none⟩) hB c2
  clear c0 c1 c2
  go_wp2_with fail
  refine Quiet.region (by kernel_rfl) (by kernel_rfl) ?_
  repeat (go_big_quiet_step (first | (go_at_call 66; (with_reducible exact Quiet.calls (kind_some k n a vs.length cap hv0 _))) | (go_at_call 116; (with_reducible exact Quiet.calls (HL.out _ _ HS1.out (Quiet.Behind.below _))))))
  refine wpQuiet_nil ?_
  rintro _ ⟨pq, rfl⟩
  have hq := pq.below
  generalize pq.world = wq at hq ⊢
  go_wp2
  go_ret
  refine ⟨?_, grows hb hq⟩
  cases n <;> cases r <;> rfl

/-- A term as a value. -/
def TermV (w : World) (v : Value) (t : Tm) : Prop := ∃ s, v = .agg #[.string t.1, .bool t.2.1, s] ∧ SRow w s t.2.2
theorem TermV.below {w w' : World} {v : Value} {t : Tm} (h : TermV w v t) (hb : Below w.heap.size w w') : TermV w' v t := by
  obtain ⟨s, rfl, hs⟩ := h
  exact ⟨s, rfl, hs.below hb⟩
theorem among_eq (x : ByteArray) (vs : List ByteArray) : among x vs = vs.any (fun y => y.toList == x.toList) := by
  unfold among
  congr 1
  funext y
  exact Bool.beq_comm ..
theorem holds_term (v : Value) (t : Tm) (pv : Value) (ps : List Pr) (w : World) (hv : TermV w v t) (hvl : t.2.2.length ≤ 4611686018427387904) (hp : Row w pv ps) (hpl : ps.length ≤ 4611686018427387904) :
    Calls Tryd.prog 41 #[v, pv] w fun e w' => e = .returned (.bool (holdsT (findL ps t.1) t)) ∧ Below w.heap.size w w' := by
  obtain ⟨k, n, vs⟩ := t
  obtain ⟨s, rfl, hs⟩ := hv
  simp only at hs hvl ⊢
  cases hf : findL ps k with
  | none =>
    refine (holds_no k n s pv ps w hp hpl hf).mono ?_
    rintro e w' ⟨rfl, hb⟩
    exact ⟨by simp [holdsT], hb⟩
  | some x =>
    obtain ⟨a, cap, rfl, hc, hm⟩ := hs.slice
    cases vs with
    | nil =>
      refine (holds_any k x n a cap pv ps w hp hpl hf).mono ?_
      rintro e w' ⟨rfl, hb⟩
      exact ⟨by simp [holdsT], hb⟩
    | cons v0 vs =>
      refine (holds_some k x n a cap (v0 :: vs) (by simp) hvl pv ps w hs hp hpl hf).mono ?_
      rintro e w' ⟨rfl, hb⟩
      exact ⟨by rw [among_eq]; simp [holdsT], hb⟩
end Go.Proofs.YtcgknkbigbbfdaaDoor.Sel
