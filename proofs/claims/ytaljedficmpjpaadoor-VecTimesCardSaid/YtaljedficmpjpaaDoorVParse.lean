/- What vec.Parse answers of a text of four pieces that are numbers, and that is their Text. -/
import Derived.Test.YtaljedficmpjpaaDoorVText
namespace Go.Proofs.YtaljedficmpjpaaDoor.Vec
open Go.RowKit Go.Proofs.YtaljedficmpjpaaDoor.Wire

/-- What digits are read as. -/
def Reads (s : ByteArray) (u : Int) : Prop := ∀ w, Calls Tryd.prog 32 #[.string s, .int .i64 10, .int .i64 64] w fun e w' => e = .returned (.tuple #[.int .u64 u, .nilIface]) ∧ Below w.heap.size w w'

set_option maxRecDepth 100000 in
set_option maxHeartbeats 1000000 in
theorem parse1 (A B k : Nat) (hk : k < 4) (x u : Int) (s : ByteArray) (c : Nat) (wr : World) (hA : wr.heap[A]? = some (.cells #[.slice (some ⟨B, 0, none⟩) 4 c] 47)) (hB : wr.cell? ⟨B, k, none⟩ = some (.string s)) (st : Reads s u) :
    Calls Tryd.prog 31 #[.int .i64 k, .int .u64 x, .pointer (some ⟨A, 0, none⟩)] wr fun e w' => e = .returned (.tuple #[.int .u64 u, .bool true]) ∧ Below wr.heap.size wr w' := by
  have cA := cell_at (i := 0) hA rfl
  have HS := Lib.hid st
  clear hA st
  have hk' : (k : Int) < 4 := by omega
  have hk0 : (0 : Int) ≤ (k : Int) := by omega
  go_enter Tryd.func31, Tryd.ntmps31
  go_wp2_with fail
  refine (HS.out _).mono ?_
  rintro e w1 ⟨rfl, hb⟩
  go_wp2
  go_quiet (fail)
  go_wp2
  go_ret2
  exact ⟨rfl, below_drewN hb _⟩

/-- What Parse has laid. -/
def ParseLaid (w0 : World) (H c : Nat) (d : Nat → ByteArray) (w : World) : Prop :=
  Below H w0 w ∧ H + 3 ≤ w.heap.size ∧ w.heap[H]? = some (box 0 0 0 0) ∧ w.heap[H + 2]? = some (.cells #[.slice (some ⟨H + 1, 0, none⟩) 4 c] 47) ∧ ∀ k, k < 4 → w.cell? ⟨H + 1, k, none⟩ = some (.string (d k))
theorem ParseLaid.later {w0 : World} {H c : Nat} {d : Nat → ByteArray} {a b : World} (hab : Below (H + 3) a b) (h : ParseLaid w0 H c d a) : ParseLaid w0 H c d b :=
  ⟨h.1.trans (hab.mono (by omega)), Nat.le_trans h.2.1 hab.size, (hab.block _ (by omega)).trans h.2.2.1, (hab.block _ (by omega)).trans h.2.2.2.1, fun k hk => (hab.cell (by simp)).trans (h.2.2.2.2 k hk)⟩
theorem parse_fair {w0 : World} {H c : Nat} {d : Nat → ByteArray} {u : Nat → Int} (st : ∀ k, k < 4 → Reads (d k) (u k)) :
    Fair (H + 3) 31 #[.pointer (some ⟨H + 2, 0, none⟩)] (fun _ => 0) u (fun _ => true) (fun _ => ParseLaid w0 H c d) (ParseLaid w0 H c d) := by
  intro k hk wr hs hp
  refine (parse1 (H + 2) (H + 1) k hk 0 (u k) (d k) c wr hp.2.2.2.1 (hp.2.2.2.2 k hk) (st k hk)).mono ?_
  rintro e w' ⟨rfl, hb⟩
  exact ⟨rfl, Keeps.of_below hb, goes_same _ (hp.later (hb.mono hp.2.1))⟩

set_option maxRecDepth 100000 in
set_option maxHeartbeats 1000000 in
theorem parse_of (hJ : Joins4) (text : ByteArray) (hs : text.size ≤ 4611686018427387904) (N : Nat) (hN : N = min 5 (text.size + 1)) (d : Nat → ByteArray) (hcut : (cutK (N - 1) text.data.toList).map str = [d 0, d 1, d 2, d 3])
    (u : Nat → Int) (st : ∀ k, k < 4 → Reads (d k) (u k)) (sh : ∀ k, k < 4 → Shows (u k) (d k)) (hd : ∀ k, k < 4 → (d k).size ≤ 20) (ht : joined d = text) (w : World) :
    Calls Tryd.prog 15 #[.string text] w fun e w' => e = .returned (.tuple #[vec (u 0) (u 1) (u 2) (u 3), .bool true]) ∧ Below w.heap.size w w' := by
  have hcl : ∀ (args : Array Value) (w : World), (callFunc 31 args).run Tryd.prog w = .ok (.enter 31 args) w := fun _ _ => by kernel_rfl
  have hlen : (cutK (N - 1) text.data.toList).length = 4 := by have := congrArg List.length hcut; simpa using this
  have hN4 : 4 ≤ N := by have := (cutK_length (N - 1) text.data.toList).1; omega
  obtain ⟨row, hrow⟩ : ∃ row, row = Obj.cells (Lib.cellsOf [d 0, d 1, d 2, d 3] N) 9 := ⟨_, rfl⟩
  have HSp : Hid (∀ W, Calls Tryd.prog 30 #[.string text, .string ⟨#[58]⟩, .int .i64 5] W fun e w' => e = .returned (.slice (some ⟨W.heap.size, 0, none⟩) 4 N) ∧ w' = W.alloc row) := Lib.hid (fun W => by
    have := splitN_any text hs N hN W
    rw [hlen, hcut, ← hrow] at this
    exact this)
  have HX := Lib.hid (fun W => text_of hJ u d sh hd W)
  have HT : ∀ W, W = ((w.alloc (box 0 0 0 0)).alloc row).alloc (.cells #[.slice (some ⟨w.heap.size + 1, 0, none⟩) 4 N] 47) →
      Hid (Calls Tryd.prog 27 #[vec 0 0 0 0, .func (.func 31) #[] #[.pointer (some ⟨w.heap.size + 1 + 1, 0, none⟩)]] W
        (Turned u (fun _ => true) (fun _ => ParseLaid w w.heap.size N d) (ParseLaid w w.heap.size N d))) := by
    rintro W rfl
    refine Lib.hid (turn_any (x := fun _ => 0) hcl _ (fun _ a b hab h => h.later (by simpa using hab)) (fun a b hab h => h.later (by simpa using hab)) (by have := parse_fair (w0 := w) (H := w.heap.size) (c := N) st; simpa using this) ?_)
    refine ⟨((((Below.refl _ _).alloc (Nat.le_refl _) _).alloc (by simp) _).alloc (by simp; omega) _), by simp, ?_, ?_, ?_⟩
    · rw [heap_alloc_old _ _ (by simp; omega), heap_alloc_old _ _ (by simp)]
      exact heap_alloc_new _ _
    · exact heap_alloc_new ((w.alloc (box 0 0 0 0)).alloc row) _ ▸ (by simp)
    · intro k hk
      have h1 : (((w.alloc (box 0 0 0 0)).alloc row).alloc (.cells #[.slice (some ⟨w.heap.size + 1, 0, none⟩) 4 N] 47)).heap[w.heap.size + 1]? = some (.cells (Lib.cellsOf [d 0, d 1, d 2, d 3] N) 9) := by
        rw [heap_alloc_old _ _ (by simp), ← hrow]
        exact heap_alloc2_new _ _ _
      refine cell_at h1 ?_
      have : k = 0 ∨ k = 1 ∨ k = 2 ∨ k = 3 := by omega
      rcases this with rfl | rfl | rfl | rfl <;> simp [Lib.cellsOf]
  have HTx : Hid ((joined d).toList = text.toList) := Lib.hid (by rw [ht])
  clear hcl hcut hlen st sh hd ht hrow hJ
  obtain ⟨r, hr⟩ : ∃ r, r = joined d := ⟨_, rfl⟩
  rw [← hr] at HX HTx
  clear hr
  unfold vec
  unfold vec box at HT
  unfold vec at HX
  have hN0 : (4 : Nat) ≤ N := hN4
  clear hN hN4
  go_enter Tryd.func15, Tryd.ntmps15
  go_wp2_with fail
  refine (HSp.out _).mono ?_
  rintro e w1 ⟨rfl, rfl⟩
  go_wp2_with fail
  refine ((HT _ (by simp)).out).mono ?_
  clear HT HSp
  rintro e w1 (⟨_, rfl, hb, hsz, hA, _⟩ | ⟨⟨i, hi, hf⟩, _⟩)
  · obtain ⟨c0, c1, c2, c3, f0, f1, f2, f3⟩ := cells4 hA
    have HA := Lib.hid (set4_box hA (u 0) (u 1) (u 2) (u 3))
    have HB := Lib.hid (set4_below (T := w.heap.size) (a := u 0) (b := u 1) (c := u 2) (d := u 3) hb (Nat.le_refl _))
    clear hA hb
    unfold vec
    go_wp2_with fail
    refine (HX.out _).mono ?_
    clear HX
    rintro e w2 ⟨rfl, hb2⟩
    have hA2 : w2.heap[w.heap.size]? = some (box (u 0) (u 1) (u 2) (u 3)) := (hb2.block _ (by simp; omega)).trans HA.out
    have hB2 : Below w.heap.size w w2 := HB.out.trans (hb2.mono (by simp; omega))
    have heq : (r.toList == text.toList) = true := by rw [HTx.out]; exact beq_self_eq_true _
    clear hb2 HA HB HTx c0 c1 c2 c3 f0 f1 f2 f3
    obtain ⟨c0, c1, c2, c3, f0, f1, f2, f3⟩ := cells4 hA2
    have HA := Lib.hid (set4_box hA2 (u 0) (u 1) (u 2) (u 3))
    have HB := Lib.hid (set4_below (T := w.heap.size) (a := u 0) (b := u 1) (c := u 2) (d := u 3) hB2 (Nat.le_refl _))
    clear hA2 hB2
    go_wp2
    obtain ⟨d0, d1, d2, d3, _⟩ := cells4 HA.out
    unfold set4 at d0 d1 d2 d3
    refine bodyPost_ret (v := .tuple #[.agg #[.int .u64 (u 0), .int .u64 (u 1), .int .u64 (u 2), .int .u64 (u 3)], .bool true]) (by simp [results, Tryd.results15, go_sem, d0, d1, d2, d3]) rfl ?_
    exact ⟨rfl, HB.out⟩
  · simp at hf
end Go.Proofs.YtaljedficmpjpaaDoor.Vec
