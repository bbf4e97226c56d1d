/- What vec.Get answers, for every text and place: the four amounts that stand there, one behind another, and the place behind them; or nothing and false. -/
import Derived.Test.YtaljedficmpjpaaDoorVPut
import Derived.Test.YtaljedficmpjpaaDoorGetV
namespace Go.Proofs.YtaljedficmpjpaaDoor.Vec
open Go.RowKit Go.Proofs.YtaljedficmpjpaaDoor.Wire

/-- Where the k-th amount stands, which it is, and whether it is one. -/
def posAt (l : List UInt8) (p : Int) : Nat → Int
  | 0 => p
  | k + 1 => match getV l (posAt l p k) with | some x => x.2 | none => 0
def valAt (l : List UInt8) (p : Int) (k : Nat) : Int := match getV l (posAt l p k) with | some x => x.1 | none => 0
def okAt (l : List UInt8) (p : Int) (k : Nat) : Bool := (getV l (posAt l p k)).isSome

theorem get_at (s : ByteArray) (hs : s.size ≤ 9223372036854775807) (p : Int) (k : Nat) (w : World) :
    Calls Tryd.prog 34 #[.string s, .int .i64 (posAt s.data.toList p k)] w fun e w' => e = .returned (.tuple #[.int .u64 (valAt s.data.toList p k), .int .i64 (posAt s.data.toList p (k + 1)), .bool (okAt s.data.toList p k)]) ∧ Below w.heap.size w w' := by
  have e : posAt s.data.toList p (k + 1) = match getV s.data.toList (posAt s.data.toList p k) with | some x => (x.2 : Int) | none => 0 := rfl
  unfold valAt okAt
  rw [e]
  cases h : getV s.data.toList (posAt s.data.toList p k) with
  | none => exact get_no s hs _ h w
  | some x => exact get_yes s hs _ x.1 x.2 h w

set_option maxRecDepth 100000 in
set_option maxHeartbeats 1000000 in
theorem get1 (S N k : Nat) (x : Int) (s : ByteArray) (p u n : Int) (ok : Bool) (wr : World) (hS : wr.heap[S]? = some (.cells #[.string s] 9)) (hN : wr.heap[N]? = some (.cells #[.int .i64 p] 3))
    (st : ∀ w, Calls Tryd.prog 34 #[.string s, .int .i64 p] w fun e w' => e = .returned (.tuple #[.int .u64 u, .int .i64 n, .bool ok]) ∧ Below w.heap.size w w') :
    Calls Tryd.prog 33 #[.int .i64 k, .int .u64 x, .pointer (some ⟨S, 0, none⟩), .pointer (some ⟨N, 0, none⟩)] wr fun e w' => e = .returned (.tuple #[.int .u64 u, .bool ok]) ∧ ∃ w1, Below wr.heap.size wr w1 ∧ w' = w1.setCell ⟨N, 0, none⟩ (.int .i64 n) := by
  have cS := cell_at (i := 0) hS rfl
  have cN := cell_at (i := 0) hN rfl
  have fN := frozen_at (i := 0) hN
  have hlt : N < wr.heap.size := World.block_lt_of_cell? wr ⟨N, 0, none⟩ cN
  have HS := Lib.hid st
  clear st hS hN
  go_enter Tryd.func33, Tryd.ntmps33
  go_wp2_with fail
  refine (HS.out _).mono ?_
  rintro e w1 ⟨rfl, hb⟩
  have c1 := cell_later hb cN
  have f1 := (hb.frozen (p := ⟨N, 0, none⟩) hlt).trans fN
  go_wp2
  go_ret2
  exact ⟨rfl, w1, hb, rfl⟩

/-- What Get has laid. -/
def GetLaid (w0 : World) (H : Nat) (s : ByteArray) (q : Int) (w : World) : Prop :=
  Below H w0 w ∧ H + 3 ≤ w.heap.size ∧ w.heap[H]? = some (.cells #[.string s] 9) ∧ w.heap[H + 1]? = some (box 0 0 0 0) ∧ w.heap[H + 2]? = some (.cells #[.int .i64 q] 3)
theorem GetLaid.later {w0 : World} {H : Nat} {s : ByteArray} {q : Int} {a b : World} (hab : Below (H + 3) a b) (h : GetLaid w0 H s q a) : GetLaid w0 H s q b :=
  ⟨h.1.trans (hab.mono (by omega)), Nat.le_trans h.2.1 hab.size, (hab.block _ (by omega)).trans h.2.2.1, (hab.block _ (by omega)).trans h.2.2.2.1, (hab.block _ (by omega)).trans h.2.2.2.2⟩
theorem get_fair {w0 : World} {H : Nat} {s : ByteArray} (hs : s.size ≤ 9223372036854775807) (p : Int) :
    Fair (H + 3) 33 #[.pointer (some ⟨H, 0, none⟩), .pointer (some ⟨H + 2, 0, none⟩)] (fun _ => 0) (valAt s.data.toList p) (okAt s.data.toList p) (fun k => GetLaid w0 H s (posAt s.data.toList p k)) (GetLaid w0 H s 0) := by
  intro k hk wr hsz hp
  refine (get1 H (H + 2) k 0 s _ _ _ _ wr hp.2.2.1 hp.2.2.2.2 (get_at s hs p k)).mono ?_
  rintro e w' ⟨rfl, w1, hb, rfl⟩
  have hl : GetLaid w0 H s (posAt s.data.toList p k) w1 := hp.later (hb.mono hp.2.1)
  have hl' : GetLaid w0 H s (posAt s.data.toList p (k + 1)) (w1.setCell ⟨H + 2, 0, none⟩ (.int .i64 (posAt s.data.toList p (k + 1)))) :=
    ⟨hl.1.setCell (by simp) _, by simpa using hl.2.1, (heap_setCell_other _ _ _ _ (by simp)).trans hl.2.2.1, (heap_setCell_other _ _ _ _ (by simp)).trans hl.2.2.2.1, heap_setCell_same _ _ 0 _ _ _ hl.2.2.2.2⟩
  refine ⟨rfl, (Keeps.of_below hb).set (by simp) _, ?_⟩
  cases hok : okAt s.data.toList p k with
  | true => exact .inl ⟨rfl, hl'⟩
  | false =>
    refine .inr ⟨rfl, ?_⟩
    have e : posAt s.data.toList p (k + 1) = 0 := by
      have e1 : posAt s.data.toList p (k + 1) = match getV s.data.toList (posAt s.data.toList p k) with | some x => (x.2 : Int) | none => 0 := rfl
      rw [e1]
      unfold okAt at hok
      cases h : getV s.data.toList (posAt s.data.toList p k) with
      | none => rfl
      | some x => rw [h] at hok; simp at hok
    rw [e] at hl'
    rw [e]
    exact hl'

/-- What Get hands back. -/
def Got (l : List UInt8) (p : Int) (w0 : World) (e : Ending) (w' : World) : Prop :=
  (((∀ i, i < 4 → okAt l p i = true) ∧ e = .returned (.tuple #[vec (valAt l p 0) (valAt l p 1) (valAt l p 2) (valAt l p 3), .int .i64 (posAt l p 4), .bool true])) ∨
    ((∃ i, i < 4 ∧ okAt l p i = false) ∧ e = .returned (.tuple #[vec 0 0 0 0, .int .i64 0, .bool false]))) ∧ Below w0.heap.size w0 w'

set_option maxRecDepth 100000 in
set_option maxHeartbeats 1000000 in
theorem getVec_any (s : ByteArray) (hs : s.size ≤ 9223372036854775807) (p : Int) (w : World) :
    Calls Tryd.prog 16 #[.string s, .int .i64 p] w (Got s.data.toList p w) := by
  have hcl : ∀ (args : Array Value) (w : World), (callFunc 33 args).run Tryd.prog w = .ok (.enter 33 args) w := fun _ _ => by kernel_rfl
  have HT : ∀ W, W = ((w.alloc (.cells #[.string s] 9)).alloc (box 0 0 0 0)).alloc (.cells #[.int .i64 p] 3) →
      Hid (Calls Tryd.prog 27 #[vec 0 0 0 0, .func (.func 33) #[] #[.pointer (some ⟨w.heap.size, 0, none⟩), .pointer (some ⟨w.heap.size + 1 + 1, 0, none⟩)]] W
        (Turned (valAt s.data.toList p) (okAt s.data.toList p) (fun k => GetLaid w w.heap.size s (posAt s.data.toList p k)) (GetLaid w w.heap.size s 0))) := by
    rintro W rfl
    refine Lib.hid (turn_any (x := fun _ => 0) hcl _ (fun _ a b hab h => h.later (by simpa using hab)) (fun a b hab h => h.later (by simpa using hab)) (by have := get_fair (w0 := w) (H := w.heap.size) hs p; simpa using this) ?_)
    refine ⟨((((Below.refl _ _).alloc (Nat.le_refl _) _).alloc (by simp) _).alloc (by simp; omega) _), by simp, ?_, ?_, ?_⟩
    · rw [heap_alloc_old _ _ (by simp; omega), heap_alloc_old _ _ (by simp)]
      exact heap_alloc_new _ _
    · rw [heap_alloc_old _ _ (by simp)]
      exact heap_alloc2_new _ _ _
    · exact heap_alloc_new ((w.alloc (.cells #[.string s] 9)).alloc (box 0 0 0 0)) (.cells #[.int .i64 p] 3) ▸ (by simp)
  clear hcl
  obtain ⟨v, hv⟩ : ∃ v, v = valAt s.data.toList p := ⟨_, rfl⟩
  obtain ⟨q, hq⟩ : ∃ q, q = posAt s.data.toList p 4 := ⟨_, rfl⟩
  have HG : Hid (∀ e w', (((∀ i, i < 4 → okAt s.data.toList p i = true) ∧ e = .returned (.tuple #[vec (v 0) (v 1) (v 2) (v 3), .int .i64 q, .bool true])) ∨
    ((∃ i, i < 4 ∧ okAt s.data.toList p i = false) ∧ e = .returned (.tuple #[vec 0 0 0 0, .int .i64 0, .bool false]))) → Below w.heap.size w w' → Got s.data.toList p w e w') := by
    subst hv hq
    intro e w' h1 h2
    exact ⟨h1, h2⟩
  rw [← hv] at HT
  have HQ := Lib.hid hq
  clear hv hq
  unfold vec box at HT
  go_enter Tryd.func16, Tryd.ntmps16
  go_wp2_with fail
  refine ((HT _ rfl).out).mono ?_
  clear HT
  rintro e w1 (⟨hall, rfl, hb, _, _, hA, hN⟩ | ⟨hall, rfl, hb, _, _, hA, hN⟩)
  · rw [← HQ.out] at hN
    have hN : w1.heap[w.heap.size + 1 + 1]? = some (.cells #[.int .i64 q] 3) := hN
    obtain ⟨c0, c1, c2, c3, f0, f1, f2, f3⟩ := cells4 hA
    have HL := Lib.hid hall
    obtain ⟨W, hW⟩ : ∃ W, W = set4 (w.heap.size + 1) (v 0) (v 1) (v 2) (v 3) w1 := ⟨_, rfl⟩
    have hA' : W.heap[w.heap.size + 1]? = some (box (v 0) (v 1) (v 2) (v 3)) := by rw [hW]; exact set4_box hA _ _ _ _
    have hN' : W.heap[w.heap.size + 1 + 1]? = some (.cells #[.int .i64 q] 3) := by
      rw [hW]; unfold set4
      rw [heap_setCell_other _ _ _ _ (by simp), heap_setCell_other _ _ _ _ (by simp), heap_setCell_other _ _ _ _ (by simp), heap_setCell_other _ _ _ _ (by simp)]
      exact hN
    have hB' : Below w.heap.size w W := by rw [hW]; exact set4_below hb (by omega)
    have HW := Lib.hid hW
    clear hall hA hN hb hW
    unfold vec
    go_wp2
    have hW := HW.out
    unfold set4 at hW
    rw [← hW]
    clear hW HW c0 c1 c2 c3 f0 f1 f2 f3
    obtain ⟨c0, c1, c2, c3, f0, f1, f2, f3⟩ := cells4 hA'
    have cN := cell_at (i := 0) hN' rfl
    have fN := frozen_at (i := 0) hN'
    have hAs := set4_box hA' (v 0) (v 1) (v 2) (v 3)
    have hNs : (set4 (w.heap.size + 1) (v 0) (v 1) (v 2) (v 3) W).heap[w.heap.size + 1 + 1]? = some (.cells #[.int .i64 q] 3) := by
      unfold set4
      rw [heap_setCell_other _ _ _ _ (by simp), heap_setCell_other _ _ _ _ (by simp), heap_setCell_other _ _ _ _ (by simp), heap_setCell_other _ _ _ _ (by simp)]
      exact hN'
    clear hA' hN'
    have HAs := Lib.hid hAs
    have HNs := Lib.hid hNs
    clear hAs hNs
    go_region
    go_wp2
    have hA2 := (heap_setCell_other _ ⟨w.heap.size + 1 + 1, 0, none⟩ (w.heap.size + 1) (.int .i64 q) (by simp)).trans HAs.out
    have hN2 := heap_setCell_same _ _ 0 _ _ (.int .i64 q) HNs.out
    obtain ⟨d0, d1, d2, d3, _⟩ := cells4 hA2
    have dN := cell_at (i := 0) hN2 rfl
    have hB2 : Below w.heap.size w ((set4 (w.heap.size + 1) (v 0) (v 1) (v 2) (v 3) W).setCell ⟨w.heap.size + 1 + 1, 0, none⟩ (.int .i64 q)).drew := ((set4_below hB' (by omega)).setCell (by simp; omega) _).drew
    unfold set4 at d0 d1 d2 d3 dN hB2
    refine bodyPost_ret (v := .tuple #[.agg #[.int .u64 (v 0), .int .u64 (v 1), .int .u64 (v 2), .int .u64 (v 3)], .int .i64 q, .bool true]) (by simp [results, Tryd.results16, go_sem, d0, d1, d2, d3, dN]) rfl ?_
    exact HG.out _ _ (.inl ⟨HL.out, rfl⟩) hB2
  · have hN : w1.heap[w.heap.size + 1 + 1]? = some (.cells #[.int .i64 0] 3) := hN
    obtain ⟨c0, c1, c2, c3, f0, f1, f2, f3⟩ := cells4 hA
    have HL := Lib.hid hall
    obtain ⟨W, hW⟩ : ∃ W, W = set4 (w.heap.size + 1) 0 0 0 0 w1 := ⟨_, rfl⟩
    have hA' : W.heap[w.heap.size + 1]? = some (box 0 0 0 0) := by rw [hW]; exact set4_box hA _ _ _ _
    have hN' : W.heap[w.heap.size + 1 + 1]? = some (.cells #[.int .i64 0] 3) := by
      rw [hW]; unfold set4
      rw [heap_setCell_other _ _ _ _ (by simp), heap_setCell_other _ _ _ _ (by simp), heap_setCell_other _ _ _ _ (by simp), heap_setCell_other _ _ _ _ (by simp)]
      exact hN
    have hB' : Below w.heap.size w W := by rw [hW]; exact set4_below hb (by omega)
    have HW := Lib.hid hW
    clear hall hA hN hb hW
    unfold vec
    go_wp2
    have hW := HW.out
    unfold set4 at hW
    rw [← hW]
    clear hW HW c0 c1 c2 c3 f0 f1 f2 f3
    obtain ⟨c0, c1, c2, c3, f0, f1, f2, f3⟩ := cells4 hA'
    have cN := cell_at (i := 0) hN' rfl
    have fN := frozen_at (i := 0) hN'
    have hAs := set4_box hA' 0 0 0 0
    have hNs : (set4 (w.heap.size + 1) 0 0 0 0 W).heap[w.heap.size + 1 + 1]? = some (.cells #[.int .i64 0] 3) := by
      unfold set4
      rw [heap_setCell_other _ _ _ _ (by simp), heap_setCell_other _ _ _ _ (by simp), heap_setCell_other _ _ _ _ (by simp), heap_setCell_other _ _ _ _ (by simp)]
      exact hN'
    clear hA' hN'
    have HAs := Lib.hid hAs
    have HNs := Lib.hid hNs
    clear hAs hNs
    go_region
    go_wp2
    have hA2 := (heap_setCell_other _ ⟨w.heap.size + 1 + 1, 0, none⟩ (w.heap.size + 1) (.int .i64 0) (by simp)).trans HAs.out
    have hN2 := heap_setCell_same _ _ 0 _ _ (.int .i64 0) HNs.out
    obtain ⟨d0, d1, d2, d3, _⟩ := cells4 hA2
    have dN := cell_at (i := 0) hN2 rfl
    have hB2 : Below w.heap.size w ((set4 (w.heap.size + 1) 0 0 0 0 W).setCell ⟨w.heap.size + 1 + 1, 0, none⟩ (.int .i64 0)).drew := ((set4_below hB' (by omega)).setCell (by simp; omega) _).drew
    unfold set4 at d0 d1 d2 d3 dN hB2
    refine bodyPost_ret (v := .tuple #[.agg #[.int .u64 0, .int .u64 0, .int .u64 0, .int .u64 0], .int .i64 0, .bool false]) (by simp [results, Tryd.results16, go_sem, d0, d1, d2, d3, dN]) rfl ?_
    exact HG.out _ _ (.inr ⟨HL.out, rfl⟩) hB2
end Go.Proofs.YtaljedficmpjpaaDoor.Vec
