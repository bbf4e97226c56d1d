/- What the document's own term tells of any place of any text; of memory that was there nothing turns. -/
import Derived.Test.YtbilkeadhflibaaGreatDoorSRef5
import Derived.Test.YtbilkeadhflibaaGreatDoorRefTextV
import Derived.Test.YtbilkeadhflibaaGreatDoorJL4
namespace Go.Proofs.YtbilkeadhflibaaGreatDoor.Sel
open Go.RowKit Go.Proofs.YtbilkeadhflibaaGreatDoor.Texts Go.Proofs.YtbilkeadhflibaaGreatDoor.Word Go.Proofs.YtbilkeadhflibaaGreatDoor.Forms Go.Proofs.YtbilkeadhflibaaGreatDoor.Boxes

theorem refOneText_yes (s : ByteArray) (hs : s.size ≤ 9223372036854775797) (p : Int) (x : ByteArray) (q : Int) (h : oneText s p = some (x, q)) (w : World) :
    Calls Tryz.prog 34 #[.string s, .int .i64 p, .int .i64 32] w fun e w' => e = .returned (.tuple #[.string x, .int .i64 q, .bool true]) ∧ w = w' := by
  unfold oneText at h
  split at h
  · cases h
  rename_i a ha
  simp only [Option.some.injEq, Prod.mk.injEq] at h
  obtain ⟨rfl, rfl⟩ := h
  exact Wire.refText_yes s hs p 32 (by decide) a.1 a.2 ha w
theorem refOneText_no (s : ByteArray) (hs : s.size ≤ 9223372036854775797) (p : Int) (h : oneText s p = none) (w : World) :
    Calls Tryz.prog 34 #[.string s, .int .i64 p, .int .i64 32] w fun e w' => e = .returned (.tuple #[.string ⟨#[]⟩, .int .i64 0, .bool false]) ∧ w = w' := by
  unfold oneText at h
  split at h
  · rename_i ha
    exact Wire.refText_no s hs p 32 (by decide) ha w
  · cases h
/-- What term tells. -/
def TermG (r : Option (Tm × Int)) (w : World) (e : Ending) (w' : World) : Prop := (match r with
  | none => e = .returned (.tuple #[.agg #[.string ⟨#[]⟩, .bool false, .slice none 0 0], .int .i64 0, .bool false])
  | some x => ∃ v, e = .returned (.tuple #[v, .int .i64 x.2, .bool true]) ∧ TNew w.heap.size w' v x.1) ∧ Below w.heap.size w w'
set_option maxHeartbeats 1000000 in
set_option maxRecDepth 100000 in
theorem term_text (s : ByteArray) (p : Int) (q1 : Int) (n : Nat) (q2 : Int) (y : Bool) (w : World)
    (HT : Hid (∀ W, Calls Tryz.prog 34 #[.string s, .int .i64 p, .int .i64 32] W fun e w' => e = .returned (.tuple #[.string ⟨#[]⟩, .int .i64 q1, .bool false]) ∧ W = w'))
    (HG : Hid (∀ W, Calls Tryz.prog 36 #[.string s, .int .i64 q1] W fun e w' => e = .returned (.tuple #[.int .u64 n, .int .i64 q2, .bool y]) ∧ W = w')) :
    Calls Tryz.prog 79 #[.string s, .int .i64 p] w (TermG none w) := by
  obtain ⟨e0, e1, e2, _⟩ := cells3 (fresh w (.cells #[.string ⟨#[]⟩, .bool false, .slice none 0 0] 108))
  have hb := grew w (.cells #[.string ⟨#[]⟩, .bool false, .slice none 0 0] 108)
  go_enter Tryz.func79, Tryz.ntmps79
  go_wp2_with fail
  with_reducible refine (HT.out _).mono ?_
  rintro e _ ⟨rfl, rfl⟩
  go_wp2_with fail
  with_reducible refine (HG.out _).mono ?_
  rintro e _ ⟨rfl, rfl⟩
  go_wp2
  refine bodyPost_ret (v := .tuple #[.agg #[.string ⟨#[]⟩, .bool false, .slice none 0 0], .int .i64 0, .bool false]) (by simp [results, Tryz.results79, go_sem, e0, e1, e2]) rfl ?_
  exact ⟨rfl, hb⟩
set_option maxHeartbeats 1000000 in
set_option maxRecDepth 100000 in
theorem term_number (s : ByteArray) (p : Int) (k : ByteArray) (q1 : Int) (w : World)
    (HT : Hid (∀ W, Calls Tryz.prog 34 #[.string s, .int .i64 p, .int .i64 32] W fun e w' => e = .returned (.tuple #[.string k, .int .i64 q1, .bool true]) ∧ W = w'))
    (HG : Hid (∀ W, Calls Tryz.prog 36 #[.string s, .int .i64 q1] W fun e w' => e = .returned (.tuple #[.int .u64 0, .int .i64 0, .bool false]) ∧ W = w')) :
    Calls Tryz.prog 79 #[.string s, .int .i64 p] w (TermG none w) := by
  obtain ⟨e0, e1, e2, _⟩ := cells3 (fresh w (.cells #[.string ⟨#[]⟩, .bool false, .slice none 0 0] 108))
  have hb := grew w (.cells #[.string ⟨#[]⟩, .bool false, .slice none 0 0] 108)
  go_enter Tryz.func79, Tryz.ntmps79
  go_wp2_with fail
  with_reducible refine (HT.out _).mono ?_
  rintro e _ ⟨rfl, rfl⟩
  go_wp2_with fail
  with_reducible refine (HG.out _).mono ?_
  rintro e _ ⟨rfl, rfl⟩
  go_wp2
  refine bodyPost_ret (v := .tuple #[.agg #[.string ⟨#[]⟩, .bool false, .slice none 0 0], .int .i64 0, .bool false]) (by simp [results, Tryz.results79, go_sem, e0, e1, e2]) rfl ?_
  exact ⟨rfl, hb⟩
set_option maxHeartbeats 1000000 in
set_option maxRecDepth 100000 in
theorem term_great (s : ByteArray) (p : Int) (k : ByteArray) (q1 : Int) (n : Nat) (q2 : Int) (hn : 9 < n) (w : World)
    (HT : Hid (∀ W, Calls Tryz.prog 34 #[.string s, .int .i64 p, .int .i64 32] W fun e w' => e = .returned (.tuple #[.string k, .int .i64 q1, .bool true]) ∧ W = w'))
    (HG : Hid (∀ W, Calls Tryz.prog 36 #[.string s, .int .i64 q1] W fun e w' => e = .returned (.tuple #[.int .u64 n, .int .i64 q2, .bool true]) ∧ W = w')) :
    Calls Tryz.prog 79 #[.string s, .int .i64 p] w (TermG none w) := by
  have hnz : (9 : Int) < (n : Int) := by omega
  obtain ⟨e0, e1, e2, _⟩ := cells3 (fresh w (.cells #[.string ⟨#[]⟩, .bool false, .slice none 0 0] 108))
  have hb := grew w (.cells #[.string ⟨#[]⟩, .bool false, .slice none 0 0] 108)
  go_enter Tryz.func79, Tryz.ntmps79
  go_wp2_with fail
  with_reducible refine (HT.out _).mono ?_
  rintro e _ ⟨rfl, rfl⟩
  go_wp2_with fail
  with_reducible refine (HG.out _).mono ?_
  rintro e _ ⟨rfl, rfl⟩
  go_wp2
  refine bodyPost_ret (v := .tuple #[.agg #[.string ⟨#[]⟩, .bool false, .slice none 0 0], .int .i64 0, .bool false]) (by simp [results, Tryz.results79, go_sem, e0, e1, e2]) rfl ?_
  exact ⟨rfl, hb⟩

/-- What the values tell of a term whose key and number are read. -/
def valuedR (k : ByteArray) (b : Bool) (r : Option (List ByteArray × Int)) : Option (Tm × Int) := match r with
  | none => none
  | some vs => some ((k, b, vs.1), vs.2)
set_option maxHeartbeats 4000000 in
set_option maxRecDepth 100000 in
theorem refTerm_go (s : ByteArray) (hs : s.size ≤ 9223372036854775797) (p : Int) (k : ByteArray) (q1 : Int) (n m : Nat) (b : Bool) (q2 : Nat) (hn : n ≤ 9) (hb0 : b = decide (n % 2 = 1)) (hm0 : m = n / 2) (h : oneText s p = some (k, q1)) (hg : Wire.getV s.data.toList q1 = some (n, q2)) (w : World) :
    Calls Tryz.prog 79 #[.string s, .int .i64 p] w (TermG (valuedR k b (readN (oneText s) m (q2 : Int))) w) := by
  obtain ⟨i0, hi, hz0, hz1, hz2⟩ := info_parts infoS
  have HT := Lib.hid (refOneText_yes s hs p k q1 h)
  have HG := Lib.hid (Wire.refGet_yes s hs q1 n q2 hg)
  have hrem : ((n : Int) % 2 == 1) = b := by rw [hb0, Bool.eq_iff_iff, beq_iff_eq, decide_eq_true_eq]; omega
  have hrem2 : ((n : Int).tmod 2 == 1) = b := by rw [Int.tmod_eq_emod_of_nonneg (by omega)]; exact hrem
  have hquo : (n : Int) / 2 = (m : Int) := by omega
  have hquo2 : (n : Int).tdiv 2 = (m : Int) := by rw [Int.tdiv_eq_ediv_of_nonneg (by omega)]; exact hquo
  have hwm : IntKind.i64.wrap (m : Int) = (m : Int) := by rw [IntKind.wrap_i64]; omega
  have hn9 : ¬ (9 : Int) < (n : Int) := by omega
  have hn9d : decide ((9 : Int) < (n : Int)) = false := decide_eq_false hn9
  have hn9e : decide (9 < n) = false := decide_eq_false (by omega)
  have hm4 : m ≤ 4 := by omega
  have h0 : ∀ o p, ((w.alloc o).alloc p).heap[w.heap.size]? = some o := fun o p => keep (fresh w o) (old _ _)
  have hbb : ∀ o p, Below w.heap.size w ((w.alloc o).alloc p) := fun o p => grows (grew w o) (grew _ p)
  have H0 := Lib.hid h0
  have HBB := Lib.hid hbb
  clear h hg hb0 hm0 hn h0 hbb
  go_enter Tryz.func79, Tryz.ntmps79
  go_wp2_with fail
  with_reducible refine (HT.out _).mono ?_
  rintro e _ ⟨rfl, rfl⟩
  go_wp2_with fail
  with_reducible refine (HG.out _).mono ?_
  rintro e _ ⟨rfl, rfl⟩
  go_wp2_with fail
  go_loopw [1, 13] (fun at' i wr => ∃ (j : Nat) (done : List ByteArray) (q : Int) (v : Value), j ≤ m ∧ i = .int .i64 j ∧ at' = .int .i64 q ∧ done.length = j ∧ Forms.ahead done (readN (oneText s) (m - j) q) = readN (oneText s) m (q2 : Int) ∧ wr.heap[w.heap.size + 1]? = some (.cells #[.string k, .bool b, v] 108) ∧
    wr.heap[w.heap.size]? = some (.cells #[.string ⟨#[]⟩, .bool false, .slice none 0 0] 108) ∧ wr.ownsRow (w.heap.size + 2) 9 1 v j (svals done) ∧ Below w.heap.size w wr ∧ w.heap.size + 2 ≤ wr.heap.size) (fun _ i _ => m - (intOf i).toNat)
  case atStart => exact ⟨0, [], q2, _, Nat.zero_le _, rfl, rfl, rfl, ahead_nil _, fresh1 w _ _, H0.out _ _, World.ownsRow_nil _ _ _ _, HBB.out _ _, by rw [size_alloc, size_alloc]; omega⟩
  case round =>
    obtain ⟨j, done, q, v, hj, rfl, rfl, hdl, hrd, ht, ha, hown, hb, hBr⟩ := hrel
    have HD := Lib.hid hdl
    have HRD := Lib.hid hrd
    have HTT := Lib.hid ht
    have HA := Lib.hid ha
    have HOw := Lib.hid hown
    have hvf : ∃ va vn vc, v = .slice va vn vc := by
      rcases hown.2 with ⟨h, _⟩ | ⟨g, cap, cur, h, _⟩
      · exact ⟨_, _, _, h⟩
      · exact ⟨_, _, _, h⟩
    obtain ⟨va, vn, vc, rfl⟩ := hvf
    obtain ⟨c0, c1, c2, f0, f1, f2⟩ := cells3 ht
    have hltT := lt_of ht
    by_cases hlt : j < m
    · have hltz : (j : Int) < (m : Int) := by omega
      cases hone : oneText s q with
      | some x =>
        obtain ⟨x, q'⟩ := x
        have HX := Lib.hid (refOneText_yes s hs q x q' hone)
        have HRD2 : Hid (Forms.ahead (done ++ [x]) (readN (oneText s) (m - (j + 1)) q') = readN (oneText s) m (q2 : Int)) := Lib.hid (by rw [← HRD.out, show m - j = (m - (j + 1)) + 1 by omega, readN_go hone])
        have HMax : Hid (j + 1 ≤ maxLen ∧ (j + 1) * 16 ≤ 140737488355328) := Lib.hid (by unfold maxLen; omega)
        have c2a : (World.alloc wr (.cells #[.string x] 9)).cell? ⟨w.heap.size + 1, 2, none⟩ = some (.slice va vn vc) := cell_at (i := 2) (keep ht (old _ _)) rfl
        clear hdl hrd ha hown hone
        go_wp2_with fail
        with_reducible refine (HX.out _).mono ?_
        rintro e _ ⟨rfl, rfl⟩
        go_wp2_with (at_builtin; refine wpList_append_lies _ rfl _ _ 28 rfl (w.heap.size + 2) 9 i0 (.string ByteArray.empty) 1 16 Tryz.underlying28 hi hz0 hz1 hz2 rfl (by decide) (.slice va vn vc) j (svals done) rfl (World.ownsRow.alloc HOw.out _) ⟨wr.heap.size, 0, none⟩ 1 1 [.string x] rfl rfl (cell_one_new wr _ _) (fun u hu => by simp at hu; subst hu; rfl) (by decide) HMax.out.1 HMax.out.2 (by rw [size_alloc]; omega) (wr.heap.size + 1) (size_alloc _ _) ?_)
        intro g5 cap5 w5 hown5 hgrow5 hat5 _
        have hvo : ∀ g, (Value.slice va vn vc).ownBlock = some g → w.heap.size + 2 ≤ g := fun g hg => (HOw.out.lt g hg).1
        have hT5 := after HTT.out hgrow5 (fun e => by have := hvo _ e; omega)
        have hA5 := after HA.out hgrow5 (fun e => by have := hvo _ e; omega)
        have HT5 := Lib.hid hT5
        have HA5 := Lib.hid hA5
        obtain ⟨_, _, e2, _, _, g2⟩ := cells3 hT5
        have h5s := hgrow5.size
        rw [size_alloc] at h5s
        have HB5 : Hid (Below w.heap.size w w5) := Lib.hid ((hb.alloc hb.size _).grown hgrow5 (by rw [size_alloc]; have := hb.size; omega) (fun g hg => by have := hvo g hg; omega))
        have HOwn5 := Lib.hid hown5
        clear hown5 hgrow5 hat5 hT5 hA5 c2a c0 c1 c2 f0 f1 f2 ht hvo
        go_wp2
        go_roundw
        case rel =>
          refine ⟨j + 1, done ++ [x], q', _, by omega, by go_num, rfl, by rw [List.length_append, HD.out]; rfl, HRD2.out, heap_setCell_same _ _ 2 _ _ _ HT5.out, (heap_setCell_other _ _ _ _ (by simp)).trans HA5.out, ?_, HB5.out.setCell (by show w.heap.size ≤ w.heap.size + 1; omega) _, by simp; omega⟩
          rw [svals_snoc]
          exact ownsRow_setCell_below HOwn5.out (by simp) _
        case measure => simp [intOf]; omega
      | none =>
        have HX := Lib.hid (refOneText_no s hs q hone)
        have HNo : Hid (readN (oneText s) m (q2 : Int) = none) := Lib.hid (by rw [← HRD.out, show m - j = (m - (j + 1)) + 1 by omega, readN_stop hone])
        obtain ⟨d0, d1, d2, f0, f1, f2⟩ := cells3 ha
        obtain ⟨e0, e1, e2, _⟩ := cells3 (set3_box ha (.string ⟨#[]⟩) (.bool false) (.slice none 0 0))
        have HZ := Lib.hid (set3_below (a := .string ⟨#[]⟩) (b := .bool false) (c := .slice none 0 0) (T := w.heap.size) hb (Nat.le_refl _))
        unfold set3 at e0 e1 e2 HZ
        clear hdl hrd ht ha hown hone
        go_wp2_with fail
        with_reducible refine (HX.out _).mono ?_
        rintro e _ ⟨rfl, rfl⟩
        go_wp2
        refine bodyPost_ret (v := .tuple #[.agg #[.string ⟨#[]⟩, .bool false, .slice none 0 0], .int .i64 0, .bool false]) (by simp [results, Tryz.results79, go_sem, e0, e1, e2]) rfl ?_
        rw [HNo.out]
        exact ⟨rfl, HZ.out⟩
    · have hltz : ¬ ((j : Int) < (m : Int)) := by omega
      have hjm : j = m := by omega
      have hsr : SRow wr (.slice va vn vc) done := own_srow (T := 9) (by rw [hdl]; exact hown)
      have hsn : SNew (w.heap.size + 2) wr (.slice va vn vc) done := ⟨hsr, fun g o n c e hn => by
        cases va with
        | none => cases e
        | some a =>
          injection e with e1 _ _
          injection e1 with e1
          subst e1
          exact (HOw.out.lt g rfl).1⟩
      have HFin : Hid (valuedR k b (readN (oneText s) m (q2 : Int)) = some ((k, b, done), q)) := Lib.hid (by
        rw [← HRD.out, hjm, Nat.sub_self]
        simp [readN, Forms.ahead, valuedR])
      obtain ⟨d0, d1, d2, p0, p1, p2⟩ := cells3 ha
      obtain ⟨e0, e1, e2, _⟩ := cells3 (set3_box ha (.string k) (.bool b) (.slice va vn vc))
      have HZ := Lib.hid (set3_below (a := .string k) (b := .bool b) (c := .slice va vn vc) (T := w.heap.size) hb (Nat.le_refl _))
      have HR : Hid (SNew w.heap.size (set3 w.heap.size (.string k) (.bool b) (.slice va vn vc) wr) (.slice va vn vc) done) := Lib.hid ((hsn.but ((((But.refl w.heap.size wr).set 0 _).set 1 _).set 2 _) (by omega)).mono (by omega))
      unfold set3 at e0 e1 e2 HZ HR
      clear hdl hrd ht ha hown hsr hsn
      go_wp2
      refine bodyPost_ret (v := .tuple #[.agg #[.string k, .bool b, .slice va vn vc], .int .i64 q, .bool true]) (by simp [results, Tryz.results79, go_sem, e0, e1, e2]) rfl ?_
      rw [HFin.out]
      exact ⟨⟨_, rfl, _, rfl, HR.out⟩, HZ.out⟩
end Go.Proofs.YtbilkeadhflibaaGreatDoor.Sel
