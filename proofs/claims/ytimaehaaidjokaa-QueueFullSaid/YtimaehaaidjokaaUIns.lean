/- slices.Insert of one entry into a queue of one's own (chapter 14): at the end, in place, or into a new row; of memory that was there nothing turns. -/
import Derived.Test.YtimaehaaidjokaaUClone
import Derived.Test.YtimaehaaidjokaaGIns
namespace Go.Proofs.Ytimaehaaidjokaa.Queue
open Go.RowKit Go.Proofs.Ytimaehaaidjokaa.Rec

def recU : Rec E where
  n := 2
  cells := enc
  len := fun _ => rfl
  one := fun e v hv => by
    simp only [enc, List.mem_cons, List.not_mem_nil, or_false] at hv
    rcases hv with rfl | rfl <;> rfl
  pos := by decide
theorem newsU {w : World} {b : Nat} {x : E} (h : w.heap[b]? = some (boxU x)) : ∀ j v, (enc x)[j]? = some v → w.cell? ((⟨b, 0, none⟩ : Addr).add j) = some v := by
  intro j v hj
  obtain ⟨h0, h1⟩ := cellsU h
  rw [Addr.add_lit, Nat.zero_add]
  match j with
  | 0 => simp [enc] at hj; subst hj; exact h0
  | 1 => simp [enc] at hj; subst hj; exact h1
  | _ + 2 => simp [enc] at hj
theorem rowU {w : World} {b : Nat} {x : E} (h : w.heap[b]? = some (boxU x)) (hf : Fair x) : Row w (.slice (some ⟨b, 0, none⟩) 1 1) [x] := by
  obtain ⟨h0, h1⟩ := cellsU h
  refine .inr ⟨by simp, b, 0, 1, rfl, (Array.getElem?_eq_some_iff.1 h).1, by simp, by unfold maxLen; omega, fun j y hj => ?_⟩
  match j with
  | 0 => simp at hj; subst hj; exact ⟨hf, by simpa using h0, by simpa using h1⟩
  | _ + 1 => simp at hj

set_option maxHeartbeats 2000000 in
set_option maxRecDepth 100000 in
/-- At the end. -/
theorem insert_end {B : Nat} (v : Value) (q : List E) (x : E) (vb : Nat) (w : World) (hv : Mine 25 w B v q) (hB : B ≤ w.heap.size) (hz : q.length + 1 ≤ 8796093022208) (hx : w.heap[vb]? = some (boxU x)) (hf : Fair x) :
    Calls Try.prog 26 #[v, .int .i64 (q.length : Int), .slice (some ⟨vb, 0, none⟩) 1 1] w fun e w' => (∃ u, e = .returned u ∧ Mine 25 w' B u (q ++ [x])) ∧ Below B w w' := by
  have hsl := hv.slice
  have happ := fun ty => append_row (T := 25) (ts := 22) Try.underlying22 infoE hv (rowU hx hf) (by simpa using hz) hB ty
  obtain ⟨a, cap, rfl, hc1, hc2⟩ := hsl
  obtain ⟨n, hn⟩ : ∃ n, q.length = n := ⟨_, rfl⟩
  rw [hn] at happ hc1 hz ⊢
  have hr : ∀ ty, ∃ v' w', (Builtin.append_ #[22, 22] ty #[.slice a n cap, .slice (some ⟨vb, 0, none⟩) 1 1]).run Try.prog w = .ok v' w' ∧ Mine 25 w' B v' (q ++ [x]) ∧ Below B w w' := happ
  obtain ⟨v1, w1, hrun, hm, hb⟩ := hr 22
  have HM := Lib.hid hm
  have HB := Lib.hid hb
  have hz1 : ¬ ((1 : Int) = 0) := by omega
  have hn0 : (0 : Int) ≤ (n : Int) := by omega
  have hnc : (n : Int) ≤ (cap : Int) := by omega
  clear hm hb hr happ hv hx hz hc2
  go_enter Try.func26, Try.ntmps26
  cases a with
  | none =>
    go_wp2_with (at_builtin; refine Lib.wpList_append_run _ rfl _ _ _ _ rfl _ _ rfl rfl _ _ hrun ?_)
    all_goals (go_ret; exact ⟨⟨_, rfl, HM.out⟩, HB.out⟩)
  | some a =>
    go_wp2_with (at_builtin; refine Lib.wpList_append_run _ rfl _ _ _ _ rfl _ _ rfl rfl _ _ hrun ?_)
    all_goals (go_ret; exact ⟨⟨_, rfl, HM.out⟩, HB.out⟩)

theorem sizeU (w : World) : (sizeOf 25).run Try.prog w = .ok 2 w := by
  obtain ⟨i0, hi, _, hz1, _⟩ := info_parts infoE
  simp [sizeOf, typeInfo, hi, hz1]
theorem sizeU' : (Try.prog.info? 25).map (·.size) = some 2 := by
  obtain ⟨i0, hi, _, hz1, _⟩ := info_parts infoE
  rw [hi]; simp [hz1]
set_option maxHeartbeats 4000000 in
set_option maxRecDepth 100000 in
/-- In place. -/
theorem insert_room {B : Nat} (g cap : Nat) (q : List E) (i : Nat) (x : E) (vb : Nat) (w : World) (hv : Mine 25 w B (.slice (some ⟨g, 0, none⟩) q.length cap) q) (hi : i < q.length) (hroom : q.length + 1 ≤ cap) (hx : w.heap[vb]? = some (boxU x)) (hne : vb ≠ g) :
    Calls Try.prog 26 #[.slice (some ⟨g, 0, none⟩) q.length cap, .int .i64 (i : Int), .slice (some ⟨vb, 0, none⟩) 1 1] w fun e w' => (∃ u, e = .returned u ∧ Mine 25 w' B u (insAt q i x)) ∧ Below B w w' := by
  obtain ⟨L, hL, hLl, hLt⟩ := own_room (size := 2) hv hroom
  have hcm : cap ≤ maxLen := by
    obtain ⟨_, _, h, _, h2⟩ := hv.slice
    cases h; exact h2
  have hgB : B ≤ g := by
    rcases hv.2 with ⟨h, _⟩ | ⟨g', cap', cur, h, hb, _⟩
    · cases h
    · cases h; exact hb
  obtain ⟨cur, hcur, hcs⟩ : ∃ cur, w.heap[g]? = some (.cells cur 25 (0, 0)) ∧ cur.size = cap * 2 := by
    rcases hv.2 with ⟨h, _⟩ | ⟨g', cap', cur, h, hb, h1, _, _, h2, _⟩
    · cases h
    · cases h; exact ⟨cur, h1, h2⟩
  have hcells := fun j hj => hv.cellAt (size := 2) (xs := q.flatMap enc) j hj
  have hD : (flat recU (q.drop i)).length = (q.length - i) * 2 := by rw [flat_len, List.length_drop]; rfl
  have hfin : sets (sets L ((i + 1) * 2) (flat recU (q.drop i))) (i * 2) (enc x) = flat recU (insAt q i x) := sets_ins recU q i x (by omega) L hLl (by
    have h1 : L.take (i * 2) = (L.take (q.length * 2)).take (i * 2) := by rw [List.take_take, Nat.min_eq_left (by omega)]
    show L.take (i * 2) = _
    rw [h1, hLt]
    exact flat_take recU q i)
  have hown2 := own_sets (w := w.drew) (flat recU (q.drop i)) ((i + 1) * 2) hL
  have hown3 := own_sets (enc x) (i * 2) hown2
  rw [hfin] at hown3
  obtain ⟨W1, hW1⟩ : ∃ W1, W1 = w.drew.setCells g ((i + 1) * 2) (flat recU (q.drop i)) := ⟨_, rfl⟩
  rw [← hW1] at hown2 hown3
  have hbW1 : Below B w W1 := by rw [hW1]; exact sets_below hgB _ _ (Below.refl _ _).drew
  have hx1 : W1.heap[vb]? = some (boxU x) := by
    have hfar : ∀ (vs : List Value) (o : Nat) (W : World), (W.setCells g o vs).heap[vb]? = W.heap[vb]? := by
      intro vs
      induction vs with
      | nil => intro o W; rfl
      | cons u r ih => intro o W; exact (ih (o + 1) _).trans (heap_setCell_other W ⟨g, o, none⟩ vb u hne)
    rw [hW1, hfar]; exact hx
  have hlen := insAt_len (x := x) (Nat.le_of_lt hi)
  obtain ⟨n, hn⟩ : ∃ n, q.length = n := ⟨_, rfl⟩
  have hlv : (q.flatMap enc).length = n * 2 := by rw [← hn]; exact fm_len q
  rw [hn] at hi hroom hL hLl hcells hD hlen hown2 hown3 ⊢
  have hcp1 : ∀ (W : World), (∀ x, W.cell? x = w.cell? x) → (∀ x, W.frozen? x = w.frozen? x) → ∀ ty dc sc, (Builtin.copy_ #[22, 22] ty #[.slice (some ⟨g, (i + 1) * 2, none⟩) (n - i) dc, .slice (some ⟨g, i * 2, none⟩) (n + 1 - i) sc]).run Try.prog W = .ok (goInt ((n - i : Nat) : Int)) (W.setCells g ((i + 1) * 2) (flat recU (q.drop i))) := fun W hWc hWf ty dc sc =>
    run_copy_size W _ _ ty 25 2 (n - i) g ((i + 1) * 2) (n - i) dc ⟨g, i * 2, none⟩ (n + 1 - i) sc (flat recU (q.drop i)) Try.underlying22 sizeU' (by simp only [Nat.min_def]; split <;> omega) hD
      (fun j v hj => by
        have hjl := (List.getElem?_eq_some_iff.1 hj).1
        rw [Addr.add_lit, hWc, hcells (i * 2 + j) (by omega)]
        have e := flat_drop recU q i
        rw [← e, List.getElem?_drop] at hj
        exact hj)
      (fun j hj => by rw [hWc]; exact own_isSome hL (by omega))
      (fun j _ => by rw [hWf]; exact hL.frozenAt _) (flat_one recU _)
  have hcp2 : ∀ (W : World), (∀ x, W.cell? x = W1.cell? x) → (∀ x, W.frozen? x = W1.frozen? x) → ∀ ty dc, (Builtin.copy_ #[22, 22] ty #[.slice (some ⟨g, i * 2, none⟩) (n + 1 - i) dc, .slice (some ⟨vb, 0, none⟩) 1 1]).run Try.prog W = .ok (goInt (1 : Nat)) (W.setCells g (i * 2) (enc x)) := fun W hWc hWf ty dc =>
    run_copy_size W _ _ ty 25 2 1 g (i * 2) (n + 1 - i) dc ⟨vb, 0, none⟩ 1 1 (enc x) Try.underlying22 sizeU' (by simp only [Nat.min_def]; split <;> omega) rfl
      (fun j v hj => by rw [hWc]; exact newsU hx1 j v hj)
      (fun j hj => by rw [hWc]; exact own_isSome hown2 (by have : j < 2 := hj; omega))
      (fun j _ => by rw [hWf]; exact hown2.frozenAt _) (recU.one x)
  have hov : ∀ lb cb, (callFunc 32 #[.slice (some ⟨vb, 0, none⟩) 1 1, .slice (some ⟨g, (i + 1) * 2, none⟩) lb cb]).run Try.prog w = .ok (.value (.bool false)) w := fun lb cb => by
    rw [run_callFunc_extern Try.func32 (by kernel_rfl) (by kernel_rfl) (by kernel_rfl) (e := Extern.SlicesOverlaps.overlaps #[22, 22] #[4]) (by kernel_rfl),
      Lib.run_overlaps_apart w 22 4 25 Try.underlying22 2 sizeU ⟨vb, 0, none⟩ ⟨g, (i + 1) * 2, none⟩ 1 1 lb cb hne 25 25 2 cur.size (by unfold World.shape?; rw [hx]; rfl) (by unfold World.shape?; rw [hcur]) (by omega) (by unfold World.frozen?; rw [hx]; rfl) (by unfold World.frozen?; rw [hx]; rfl)]
    rfl
  have HM : Hid (Mine 25 (W1.setCells g (i * 2) (enc x)) B (.slice (some ⟨g, 0, none⟩) (n + 1) cap) (insAt q i x)) := Lib.hid (by unfold Mine; rw [hlen]; exact hown3)
  have HW1 := Lib.hid hW1
  have hfinB : Below B w (W1.setCells g (i * 2) (enc x)) := sets_below hgB _ _ hbW1
  have HB := Lib.hid hfinB
  have hz1 : ¬ ((1 : Int) = 0) := by omega
  have hz2 : ¬ ((i : Int) = (n : Int)) := by omega
  have hn0 : (0 : Int) ≤ (i : Int) := by omega
  have hnc : (i : Int) ≤ (cap : Int) := by omega
  have hz3 : ¬ ((cap : Int) < (n : Int) + 1) := by omega
  have hz3' : decide ((cap : Int) < (n : Int) + 1) = false := decide_eq_false hz3
  have hw0 : IntKind.i64.wrap ((n : Int) + 1) = (n : Int) + 1 := by rw [IntKind.wrap_i64]; unfold maxLen at hcm; omega
  have hw1 : IntKind.i64.wrap ((i : Int) + 1) = (i : Int) + 1 := by rw [IntKind.wrap_i64]; unfold maxLen at hcm; omega
  have htn : ((n : Int) + 1).toNat = n + 1 := by omega
  have hti : ((i : Int) + 1).toNat = i + 1 := by omega
  have hb1 : (0 : Int) ≤ (i : Int) + 1 := by omega
  have hb2 : (i : Int) + 1 ≤ (n : Int) + 1 := by omega
  have hb3 : (i : Int) ≤ (n : Int) + 1 := by omega
  have hb4 : (0 : Int) ≤ (n : Int) + 1 := by omega
  have hb5 : (n : Int) + 1 ≤ (cap : Int) := by omega
  have hb6 : ¬ (cap = i + 1) := by omega
  have hb7 : ¬ (cap = i) := by omega
  clear hown2 hown3 hfinB hbW1 hx1 hfin hlen hW1 hcells hL hLl hLt hv hD hcs hcur hcm hx hn hlv
  go_enter Try.func26, Try.ntmps26
  go_wp2_with (simp only [hov])
  go_region_law (refine step_copy rfl _ _ 22 22 rfl (.slice (some ⟨g, (i + 1) * 2, none⟩) (n - i) (cap - (i + 1))) (.slice (some ⟨g, i * 2, none⟩) (n + 1 - i) (cap - i)) (by simp [Act.eval, Act.put]) (by simp [Act.eval, Act.put]) (hcp1 w.drew (fun _ => rfl) (fun _ => rfl) _ _ _) ?_)
  rw [← HW1.out]
  go_wp2_with (at_builtin; refine list_copy rfl _ _ 22 22 rfl _ _ rfl rfl (hcp2 W1 (fun _ => rfl) (fun _ => rfl) _ _) ?_)
  go_ret
  exact ⟨⟨_, rfl, HM.out⟩, HB.out⟩

set_option maxHeartbeats 4000000 in
set_option maxRecDepth 100000 in
/-- Into a new row. -/
theorem insert_grow {B : Nat} (g cap : Nat) (q : List E) (i : Nat) (x : E) (vb : Nat) (w : World) (hv : Mine 25 w B (.slice (some ⟨g, 0, none⟩) q.length cap) q) (hB : B ≤ w.heap.size) (hi : i < q.length) (hroom : cap < q.length + 1) (hz : q.length + 1 ≤ 8796093022208) (hx : w.heap[vb]? = some (boxU x)) :
    Calls Try.prog 26 #[.slice (some ⟨g, 0, none⟩) q.length cap, .int .i64 (i : Int), .slice (some ⟨vb, 0, none⟩) 1 1] w fun e w' => (∃ u, e = .returned u ∧ Mine 25 w' B u (insAt q i x)) ∧ Below B w w' := by
  obtain ⟨i0, hi0, hz0, hzs, hzb⟩ := info_parts infoE
  have hnc : q.length ≤ cap := by
    obtain ⟨_, _, h, h2, _⟩ := hv.slice
    cases h; exact h2
  have hgw : g < w.heap.size := by
    rcases hv.2 with ⟨h, _⟩ | ⟨g', cap', cur, h, hb, h1, _⟩
    · cases h
    · cases h; exact (Array.getElem?_eq_some_iff.1 h1).1
  have hvw : vb < w.heap.size := (Array.getElem?_eq_some_iff.1 hx).1
  have hcells := fun j hj => hv.cellAt (size := 2) (xs := q.flatMap enc) j hj
  have hD : (flat recU (q.drop i)).length = (q.length - i) * 2 := by rw [flat_len, List.length_drop]; rfl
  have hT : (flat recU (q.take i)).length = i * 2 := by rw [flat_len, List.length_take, Nat.min_eq_left (by omega)]; rfl
  have hlen := insAt_len (x := x) (Nat.le_of_lt hi)
  obtain ⟨n, hn⟩ : ∃ n, q.length = n := ⟨_, rfl⟩
  have hsi' := fun (L : List Value) (hL : L.length = (n + 1) * 2) (hLt : L.take (i * 2) = flat recU (q.take i)) => sets_ins' recU q i x (Nat.le_of_lt hi) L (by rw [hn]; exact hL) hLt
  rw [hn] at hi hroom hcells hD hlen hnc hz ⊢
  have hkk : (n : Int) + 1 - (i : Int) = ((n + 1 - i : Nat) : Int) := by omega
  have hik : i + (n + 1 - i) = n + 1 := by omega
  have hold : (Builtin.firstCells i0.size i (.slice (some ⟨g, 0, none⟩) i cap)).run Try.prog w.drew = .ok (flat recU (q.take i)).toArray w.drew := by
    rw [hzs]
    refine run_firstCells_some w.drew 2 i ⟨g, 0, none⟩ i cap (flat recU (q.take i)) hT (fun j v hj => ?_)
    have hjl := (List.getElem?_eq_some_iff.1 hj).1
    rw [Addr.add_lit, Nat.zero_add]
    show w.cell? ⟨g, j, none⟩ = some v
    rw [hcells j (by omega)]
    have e := flat_take recU q i
    rw [← e, List.getElem?_take] at hj
    split at hj
    · exact hj
    · cases hj
  obtain ⟨G, hG⟩ : ∃ G, G = grownCap w (n + 1) cap 25 := ⟨_, rfl⟩
  have hGn : n + 1 ≤ G := by rw [hG]; exact grownCap_ge w _ _ _
  have hG63 : G ≤ maxLen := by
    have := grownCap_le_maxLen w (n + 1) cap 25 (by unfold maxLen; omega)
    rw [← hG] at this
    exact this
  obtain ⟨ROW, hROW⟩ : ∃ ROW : Array Value, ROW = (flat recU (q.take i)).toArray ++ Builtin.zeroCells zeroE.cells (n + 1 - i) ++ Builtin.zeroCells zeroE.cells (G - (n + 1)) := ⟨_, rfl⟩
  have hRs : ROW.size = G * 2 := by
    rw [hROW]
    simp [Builtin.zeroCells, zeroE, Value.cells, hT]
    omega
  obtain ⟨W1, hW1⟩ : ∃ W1, W1 = w.drew.alloc (.cells ROW 25) := ⟨_, rfl⟩
  have hrz : ∀ ty, (Builtin.append_ #[22, 3] ty #[.slice (some ⟨g, 0, none⟩) i cap, .int .i64 ((n : Int) + 1 - (i : Int))]).run Try.prog w = .ok (.slice (some ⟨w.heap.size, 0, none⟩) (n + 1) G) W1 := fun ty => by
    have h := Lib.run_append_grow_zeros w 22 3 ty 25 i0 _ .i64 .i64 Try.underlying22 Try.underlying3 hi0 hz0 (some ⟨g, 0, none⟩) i cap (flat recU (q.take i)) hold (n + 1 - i) (by omega) (by rw [hzs]; omega) (by omega) (by omega) (by rw [hzb]; omega) (by rw [hzb, hik]; exact growslice_fits hroom (by omega))
    rw [hik, ← hG, ← hROW, ← hW1] at h
    rw [hkk]
    exact h
  obtain ⟨N, hN⟩ : ∃ N, N = w.heap.size := ⟨_, rfl⟩
  rw [← hN] at hgw hvw hB hrz
  have hnew : W1.heap[N]? = some (.cells ROW 25) := by rw [hN, hW1]; exact heap_alloc_new w.drew _
  have hbW1 : Below N w W1 := by rw [hN, hW1]; exact (Below.refl _ _).drew.alloc (Nat.le_refl _) _
  have hown1 : W1.ownsRow B 25 2 (.slice (some ⟨N, 0, none⟩) (n + 1) G) (n + 1) (ROW.toList.take ((n + 1) * 2)) :=
    ⟨by rw [List.length_take, Array.length_toList, hRs]; exact Nat.min_eq_left (Nat.mul_le_mul_right _ hGn), .inr ⟨N, G, ROW, rfl, hB, hnew, hGn, hG63, hRs, rfl⟩⟩
  have hfin := hsi' (ROW.toList.take ((n + 1) * 2)) hown1.1 (by
    rw [List.take_take, Nat.min_eq_left (by omega), hROW, Array.toList_append, Array.toList_append, List.append_assoc]
    exact List.take_left' hT)
  have hown2 := own_sets (enc x) (i * 2) hown1
  obtain ⟨W2, hW2⟩ : ∃ W2, W2 = W1.setCells N (i * 2) (enc x) := ⟨_, rfl⟩
  rw [← hW2] at hown2
  have hown3 := own_sets (w := W2.drew) (flat recU (q.drop i)) ((i + 1) * 2) hown2
  rw [show sets (sets (ROW.toList.take ((n + 1) * 2)) (i * 2) (enc x)) ((i + 1) * 2) (flat recU (q.drop i)) = flat recU (insAt q i x) from hfin] at hown3
  obtain ⟨W3, hW3⟩ : ∃ W3, W3 = W2.drew.setCells N ((i + 1) * 2) (flat recU (q.drop i)) := ⟨_, rfl⟩
  rw [← hW3] at hown3
  have hbW2 : Below N w W2 := by rw [hW2]; exact sets_below (Nat.le_refl _) _ _ hbW1
  have hbW3 : Below B w W3 := by rw [hW3]; exact sets_below hB _ _ (hbW2.mono hB).drew
  have hcpA : ∀ ty dc, (Builtin.copy_ #[22, 22] ty #[.slice (some ⟨N, i * 2, none⟩) (n + 1 - i) dc, .slice (some ⟨vb, 0, none⟩) 1 1]).run Try.prog W1 = .ok (goInt (1 : Nat)) W2 := fun ty dc => by
    rw [hW2]
    exact run_copy_size W1 _ _ ty 25 2 1 N (i * 2) (n + 1 - i) dc ⟨vb, 0, none⟩ 1 1 (enc x) Try.underlying22 sizeU' (by simp only [Nat.min_def]; split <;> omega) rfl
      (fun j v hj => newsU ((hbW1.block vb hvw).trans hx) j v hj)
      (fun j hj => own_isSome hown1 (by have : j < 2 := hj; omega))
      (fun j _ => hown1.frozenAt _) (recU.one x)
  have hcpB : ∀ ty dc sc, (Builtin.copy_ #[22, 22] ty #[.slice (some ⟨N, (i + 1) * 2, none⟩) (n - i) dc, .slice (some ⟨g, i * 2, none⟩) (n - i) sc]).run Try.prog W2.drew = .ok (goInt ((n - i : Nat) : Int)) W3 := fun ty dc sc => by
    rw [hW3]
    exact run_copy_size W2.drew _ _ ty 25 2 (n - i) N ((i + 1) * 2) (n - i) dc ⟨g, i * 2, none⟩ (n - i) sc (flat recU (q.drop i)) Try.underlying22 sizeU' (by simp only [Nat.min_def]; split <;> omega) hD
      (fun j v hj => by
        have hjl := (List.getElem?_eq_some_iff.1 hj).1
        rw [Addr.add_lit]
        show W2.cell? ⟨g, i * 2 + j, none⟩ = some v
        rw [hbW2.cell (p := ⟨g, i * 2 + j, none⟩) hgw, hcells (i * 2 + j) (by omega)]
        have e := flat_drop recU q i
        rw [← e, List.getElem?_drop] at hj
        exact hj)
      (fun j hj => own_isSome hown2 (by omega))
      (fun j _ => hown2.frozenAt _) (flat_one recU _)
  have HM : Hid (Mine 25 W3 B (.slice (some ⟨N, 0, none⟩) (n + 1) G) (insAt q i x)) := Lib.hid (by unfold Mine; rw [hlen]; exact hown3)
  have HB := Lib.hid hbW3
  have hz1 : ¬ ((1 : Int) = 0) := by omega
  have hz2 : ¬ ((i : Int) = (n : Int)) := by omega
  have hn0 : (0 : Int) ≤ (i : Int) := by omega
  have hnc' : (i : Int) ≤ (cap : Int) := by omega
  have hz3 : (cap : Int) < (n : Int) + 1 := by omega
  have hw0 : IntKind.i64.wrap ((n : Int) + 1) = (n : Int) + 1 := by rw [IntKind.wrap_i64]; omega
  have hw1 : IntKind.i64.wrap ((i : Int) + 1) = (i : Int) + 1 := by rw [IntKind.wrap_i64]; omega
  have hw2 : IntKind.i64.wrap ((n : Int) + 1 - (i : Int)) = (n : Int) + 1 - (i : Int) := by rw [IntKind.wrap_i64]; omega
  have hti : ((i : Int) + 1).toNat = i + 1 := by omega
  have hb1 : (0 : Int) ≤ (i : Int) + 1 := by omega
  have hb2 : (i : Int) + 1 ≤ (n : Int) + 1 := by omega
  have hb3 : (i : Int) ≤ (n : Int) + 1 := by omega
  have hb4 : (i : Int) ≤ (n : Int) := by omega
  have hGi : ¬ (G = i) := by omega
  have hGi1 : ¬ (G = i + 1) := by omega
  have hb7 : ¬ (cap = i) := by omega
  have hb8 : (i : Int) ≤ (G : Int) := by omega
  have hb9 : (i : Int) + 1 ≤ (G : Int) := by omega
  clear hown1 hown2 hown3 hbW1 hbW2 hbW3 hfin hlen hW1 hW2 hW3 hcells hv hD hT hx hn hsi' hROW hRs hnew hG hkk hik hold hi0 hz0 hzs hzb hgw hvw hN
  go_enter Try.func26, Try.ntmps26
  go_wp2_with (first
    | (at_builtin; refine Lib.wpList_append_run _ rfl _ _ _ _ rfl _ _ rfl rfl _ _ (hrz _) ?_)
    | (at_builtin; refine list_copy rfl _ _ 22 22 rfl _ _ rfl rfl (hcpA _ _) ?_))
  go_region_law (refine step_copy rfl _ _ 22 22 rfl (.slice (some ⟨N, (i + 1) * 2, none⟩) (n - i) (G - (i + 1))) (.slice (some ⟨g, i * 2, none⟩) (n - i) (cap - i)) (by simp [Act.eval, Act.put]) (by simp [Act.eval, Act.put]) (hcpB _ _ _) ?_)
  go_wp2
  go_ret
  exact ⟨⟨_, rfl, HM.out⟩, HB.out⟩

/-- Put in anywhere. -/
theorem insert_any {B : Nat} (v : Value) (q : List E) (i : Nat) (x : E) (vb : Nat) (w : World) (hv : Mine 25 w B v q) (hB : B ≤ w.heap.size) (hi : i ≤ q.length) (hz : q.length + 1 ≤ 8796093022208) (hx : w.heap[vb]? = some (boxU x)) (hf : Fair x)
    (hne : ∀ g n c, v = .slice (some ⟨g, 0, none⟩) n c → vb ≠ g) :
    Calls Try.prog 26 #[v, .int .i64 (i : Int), .slice (some ⟨vb, 0, none⟩) 1 1] w fun e w' => (∃ u, e = .returned u ∧ Mine 25 w' B u (q.take i ++ x :: q.drop i)) ∧ Below B w w' := by
  by_cases h : i = q.length
  · subst h
    have := insert_end v q x vb w hv hB hz hx hf
    rw [List.take_of_length_le (Nat.le_refl _), List.drop_of_length_le (Nat.le_refl _)]
    exact this
  · have hlt : i < q.length := by omega
    obtain ⟨g, cap, rfl⟩ : ∃ g cap, v = .slice (some ⟨g, 0, none⟩) q.length cap := by
      rcases hv.2 with ⟨_, h0⟩ | ⟨g, cap, cur, h, _⟩
      · omega
      · exact ⟨g, cap, h⟩
    by_cases hc : q.length + 1 ≤ cap
    · exact insert_room g cap q i x vb w hv hlt hc hx (hne _ _ _ rfl)
    · exact insert_grow g cap q i x vb w hv hB hlt (by omega) hz hx
end Go.Proofs.Ytimaehaaidjokaa.Queue
