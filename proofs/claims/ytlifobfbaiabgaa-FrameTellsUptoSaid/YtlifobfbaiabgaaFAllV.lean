/- What frame.All answers of any text of at most 2^43 records (so of any of up to 2^46 bytes): a row of the bodies of all records, and where they end; of memory that was there nothing turns. -/
import Derived.Test.YtlifobfbaiabgaaFAll
namespace Go.Proofs.Ytlifobfbaiabgaa.Frame
open Go.RowKit Go.Shelf
attribute [local go_sem] Oper.semAt_some

theorem infoS : (Try.prog.info? 9).map (fun i => (i.zero, i.size, i.bytes)) = some (some (.string ⟨#[]⟩), 1, 16) := by kernel_rfl
/-- The bodies of what has come. -/
def bodies (s : ByteArray) (pre : List (Nat × Nat)) : List Value := pre.map fun x => Value.string (s.extract x.1 x.2)
theorem bodies_snoc (s : ByteArray) (pre : List (Nat × Nat)) (x : Nat × Nat) : bodies s (pre ++ [x]) = bodies s pre ++ [.string (s.extract x.1 x.2)] := by simp [bodies]
theorem allN_end2 {s : List UInt8} : ∀ (f p : Nat), (allN s f p).2 = ((allN s f p).1.getLast?.map Prod.snd).getD p
  | 0, p => rfl
  | f + 1, p => by
    cases hn : nextF s (p : Int) with
    | none => rw [allN_none hn]; rfl
    | some x =>
      rw [allN_some hn]
      simp only
      rw [allN_end2 f x.2]
      cases h : (allN s f x.2).1 with
      | nil => rfl
      | cons y r => rw [List.getLast?_cons_cons, List.getLast?_cons]; rfl
theorem allL_end (s : List UInt8) : endOf (allL s).1 = (allL s).2 := (allN_end2 (s := s) (s.length + 1) 0).symm

theorem own_mono {w : World} {b b' : Nat} {e : TypeId} {z : Nat} {v : Value} {n : Nat} {xs : List Value} (h : w.ownsRow b e z v n xs) (hb : b' ≤ b) : w.ownsRow b' e z v n xs := by
  refine ⟨h.1, ?_⟩
  rcases h.2 with h0 | ⟨g, cap, cur, hv, h1, h2, h3⟩
  · exact .inl h0
  · exact .inr ⟨g, cap, cur, hv, by omega, h2, h3⟩
theorem low_not {w : World} {B b : Nat} {e : TypeId} {z : Nat} {v : Value} {n : Nat} {xs : List Value} (h : w.ownsRow b e z v n xs) (hB : B < b) : some B ≠ v.ownBlock := fun e' => by
  have := (h.lt B e'.symm).1
  omega

theorem own_form {w : World} {b : Nat} {e : TypeId} {z : Nat} {v : Value} {n : Nat} {xs : List Value} (h : w.ownsRow b e z v n xs) : ∃ o cap, v = .slice o n cap := by
  rcases h.2 with ⟨h0, h1⟩ | ⟨g, cap, cur, hv, _⟩
  · exact ⟨none, 0, by rw [h0, h1]⟩
  · exact ⟨_, _, hv⟩
set_option maxRecDepth 100000 in
set_option maxHeartbeats 2000000 in
theorem all_few (s : ByteArray) (hs : s.size ≤ 4611686018427387904) (hlen : (allL s.data.toList).1.length ≤ 8796093022208) (w : World) :
    Calls Try.prog 13 #[.string s] w fun e w' => ∃ v, e = .returned (.tuple #[v, .int .i64 ((allL s.data.toList).2 : Nat)]) ∧
      w'.ownsRow w.heap.size 9 1 v (allL s.data.toList).1.length (bodies s (allL s.data.toList).1) ∧ Below w.heap.size w w' := by
  refine (callsIn_wide (n := 5)).1 ?_
  obtain ⟨i0, hi, hz0, hz1, hz2⟩ := info_parts infoS
  refine callsIn_of_wp_marks Try.func13 rfl trivial ?_ rfl
  simp only [Try.ntmps13, List.size_toArray, List.length_cons, List.length_nil, Nat.reduceAdd, Nat.reduceSub, Array.replicate_succ, Array.replicate_zero, List.push_toArray, List.append_toArray, List.nil_append, List.cons_append]
  gi_wp2_with (refine ⟨trivial, ?_⟩; gi_at_call 22; refine (records_in _ _ _).mono ?_; rintro e w' ⟨rfl, rfl⟩)
  have bO := Boxed.new w 22 (.slice none 0 0)
  have bE := Boxed.new (w.alloc (.cells #[.slice none 0 0] 22)) 3 (.int .i64 0)
  have bN := Boxed.new ((w.alloc (.cells #[.slice none 0 0] 22)).alloc (.cells #[.int .i64 0] 3)) 9 (.string s)
  simp only [World.size_alloc] at bE bN
  have hB0 : Below w.heap.size w (((w.alloc (.cells #[.slice none 0 0] 22)).alloc (.cells #[.int .i64 0] 3)).alloc (.cells #[.string s] 9)) := (((Below.refl _ w).alloc (Nat.le_refl _) _).alloc (by simp) _).alloc (by simp; omega) _
  refine wpIn_rangeFunc_ownG rfl (by omega) (gf := 23) (lb := #[.pointer (some ⟨w.heap.size + 1 + 1, 0, none⟩)]) rfl trivial (enters_of Try.func23 (by kernel_rfl) rfl)
    (records_stops 4 (by omega) (w.heap.size + 1 + 1) s (by omega) _ (by simp) bN) keepsBox_t (keepsBox_b _) (Below.refl _ _) (fun _ => rfl)
    (fun pre W => (((∃ v, Boxed W w.heap.size 22 v ∧ W.ownsRow (w.heap.size + 3) 9 1 v pre.length (bodies s pre) ∧ True) ∧ Boxed W (w.heap.size + 1) 3 (.int .i64 (endOf pre : Nat))) ∧ Boxed W (w.heap.size + 1 + 1) 9 (.string s)) ∧ Below w.heap.size w W)
    (fun _ _ _ => False)
    (OwnFrom.and (Own.from (fun s A B row hs hg hr => ⟨⟨holdsRow_own (w.heap.size + 3) w.heap.size 22 9 1 _ _ (fun _ _ => True) s A B row hs.1.1 hg hr, hs.1.2.kept hg (fun e => by
        obtain ⟨o, ho, hc⟩ := hr _ e.symm
        rw [show A.heap[_]? = _ from hs.1.2] at ho; cases ho; cases hc)⟩, hs.2.kept hg (fun e => by
        obtain ⟨o, ho, hc⟩ := hr _ e.symm
        rw [show A.heap[_]? = _ from hs.2] at ho; cases ho; cases hc)⟩) _) (ownFrom_below (Nat.le_refl _) (by simp; omega)))
    (fun _ _ _ _ _ hs _ _ => hs)
    ⟨⟨⟨⟨_, (bO.alloc _).alloc _, World.ownsRow_nil _ _ _ _, trivial⟩, bE.alloc _⟩, bN⟩, hB0⟩
    (fun x => { tmps := #[.string s, undef, .pointer (some ⟨w.heap.size, 0, none⟩), .pointer (some ⟨w.heap.size + 1, 0, none⟩), .string (s.extract x.1 x.2), .int .i64 (x.2 : Nat), .string s, .func (.func 23) #[] #[.pointer (some ⟨w.heap.size + 1 + 1, 0, none⟩)], .string (s.extract x.1 x.2), .int .i64 (x.2 : Nat), undef, undef, undef, undef, undef, undef, undef], defers := [] }) ?assign ?body ?done ?stop
  case assign =>
    intro l x W K hK
    unfold recE
    gi_wp2
    exact hK
  case body =>
    rintro l pre x W ⟨⟨⟨⟨v, hv, hrow, _⟩, hE⟩, hN⟩, hB⟩ hlt
    have hc := hv.cell
    have hlt3 : w.heap.size + 1 + 1 < W.heap.size := hN.lt
    gi_wp2_with (gi_at_builtin; refine wpListIn_append_own _ rfl _ _ 22 rfl (w.heap.size + 3) 9 i0 (.string ⟨#[]⟩) 1 16 Try.underlying22 hi hz0 hz1 hz2 rfl (by decide) _ _ _ rfl (hrow.alloc _) ⟨W.heap.size, 0, none⟩ 1 1 [.string (s.extract x.1 x.2)] rfl rfl (cell_one_new _ _ _) (by simp [Value.oneCell']) (by unfold maxLen; omega) (by omega) (by simp; omega) ?_; intro v' w1 hown' hgrow _; obtain ⟨g', cap', rfl⟩ := ownsRow_succ hown'; obtain ⟨hv1, hv2, hr2, hk2, hb2⟩ := hv.appended (by decide) (own_mono hrow (by omega)) hB.size (Nat.le_refl _) (own_mono hown' (by omega)) hgrow; have hc1 := hv1.cell; have hf1 := hv1.frozen; have hE1 := ((hE.alloc _).kept hgrow (low_not hrow (by omega))).other (B' := w.heap.size) (by omega) (.slice (some ⟨g', 0, none⟩) (pre.length + 1) cap'); have hN1 := ((hN.alloc _).kept hgrow (low_not hrow (by omega))).other (B' := w.heap.size) (by omega) (.slice (some ⟨g', 0, none⟩) (pre.length + 1) cap'); have hc2 := hE1.cell; have hf2 := hE1.frozen)
    have hr3 := hown'.kept (grownBy_setCell' w1 w.heap.size (.slice (some ⟨g', 0, none⟩) (pre.length + 1) cap')) (.inr (low_not hown' (by omega)).symm)
    have hr4 := hr3.kept (grownBy_setCell' (w1.setCell ⟨w.heap.size, 0, none⟩ (.slice (some ⟨g', 0, none⟩) (pre.length + 1) cap')) (w.heap.size + 1) (.int .i64 (x.2 : Nat))) (.inr (low_not hr3 (by omega)).symm)
    exact ⟨(hk2.trans (KeepsOthers.setCell _ _ _)).from _, fun _ => hN1.other (by omega) _,
      ⟨⟨⟨_, hv2.other (by omega) _, by rw [bodies_snoc, List.length_append]; exact hr4, trivial⟩, by rw [endOf_snoc]; exact hE1.set _⟩, hN1.other (by omega) _⟩, (hB.trans hb2).setCell (p := ⟨w.heap.size + 1, 0, none⟩) (by simp) _⟩
  case done =>
    rintro D ys W hD rfl ⟨⟨⟨⟨v, hv, hrow, _⟩, hE⟩, hN⟩, hB⟩ hK
    obtain ⟨o, cap, rfl⟩ := own_form hrow
    have hc := hv.cell
    have hc2 := hE.cell
    have hfr1 := hv.frozen
    have hfr2 := hE.frozen
    obtain ⟨W2, hW2⟩ : ∃ W2, ((W.setCell ⟨w.heap.size, 0, none⟩ (.slice o (allL s.data.toList).1.length cap)).setCell ⟨w.heap.size + 1, 0, none⟩ (.int .i64 (endOf (allL s.data.toList).1 : Nat))).drew = W2 := ⟨_, rfl⟩
    have bv : Boxed W2 w.heap.size 22 (.slice o (allL s.data.toList).1.length cap) := by rw [← hW2]; exact (hv.set _).other (by omega) _
    have be : Boxed W2 (w.heap.size + 1) 3 (.int .i64 (endOf (allL s.data.toList).1 : Nat)) := by rw [← hW2]; exact (hE.other (by omega) _).set _
    have hK2 : W2.heap[D]? = some (.deferred (some [])) := by rw [← hW2]; exact (KeepsOthers.setCell _ _ _).same D _ ((KeepsOthers.setCell _ _ _).same D _ hK rfl) rfl
    have hb2 : Below w.heap.size w W2 := by rw [← hW2]; exact ((hB.setCell (p := ⟨w.heap.size, 0, none⟩) (Nat.le_refl _) _).setCell (p := ⟨w.heap.size + 1, 0, none⟩) (by simp) _).drew
    have ho2 : W2.ownsRow (w.heap.size + 3) 9 1 (.slice o (allL s.data.toList).1.length cap) (allL s.data.toList).1.length (bodies s (allL s.data.toList).1) := by
      rw [← hW2]
      have h1 := hrow.kept (grownBy_setCell' W w.heap.size (.slice o (allL s.data.toList).1.length cap)) (.inr (low_not hrow (by omega)).symm)
      have h2 := h1.kept (grownBy_setCell' _ (w.heap.size + 1) (.int .i64 (endOf (allL s.data.toList).1 : Nat))) (.inr (low_not (B := w.heap.size + 1) h1 (by omega)).symm)
      exact h2
    gi_wp2
    gi_region
    gi_wp2
    refine ⟨by simp, .inl ⟨_, _, rfl, run_takeDeferred hK2, ?_⟩⟩
    have hc5 := (Boxed.putObj bv (.deferred none) hK2 rfl).cell
    have hc6 := (Boxed.putObj be (.deferred none) hK2 rfl).cell
    rw [allL_end] at hc6
    refine ⟨.tuple #[.slice o (allL s.data.toList).1.length cap, .int .i64 ((allL s.data.toList).2 : Nat)], ?_, _, rfl, own_mono (ownsRow_putObj ho2 _ hK2 rfl) (by omega), hb2.trans (belowK_b (w := w) (Nat.le_refl _) W2 D _ _ (by simp at hD; omega) hK2 rfl rfl)⟩
    simp [results, Try.f13, go_sem, hc5, hc6]
  case stop =>
    rintro D c pre W _ _ h _
    exact h.elim
theorem all_any (s : ByteArray) (hs : s.size ≤ 70368744177664) (w : World) :
    Calls Try.prog 13 #[.string s] w fun e w' => ∃ v, e = .returned (.tuple #[v, .int .i64 ((allL s.data.toList).2 : Nat)]) ∧
      w'.ownsRow w.heap.size 9 1 v (allL s.data.toList).1.length (bodies s (allL s.data.toList).1) ∧ Below w.heap.size w w' := by
  have hlen := allL_len s.data.toList
  rw [size_list] at hlen
  exact all_few s (by omega) (by omega) w
end Go.Proofs.Ytlifobfbaiabgaa.Frame
