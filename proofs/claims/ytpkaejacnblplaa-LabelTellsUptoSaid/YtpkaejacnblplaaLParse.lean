/- What label.parsePair and label.Parse answer of every text; of memory that was there nothing turns. -/
import Derived.Test.YtpkaejacnblplaaLCut
namespace Go.Proofs.Ytpkaejacnblplaa.Label
open Go.RowKit Go.Proofs.Ytpkaejacnblplaa.Word

/-- The pair that a text begins with, and what stands behind its comma. -/
def onePair (p : ByteArray) : Option (Pr × ByteArray) :=
  if (cutAt (cutAt p.data.toList 44).1 61).2.2 = true then some ((str (cutAt (cutAt p.data.toList 44).1 61).1, str (cutAt (cutAt p.data.toList 44).1 61).2.1), str (cutAt p.data.toList 44).2.1) else none

theorem cutAt_len (l : List UInt8) (c : UInt8) : (cutAt l c).1.length ≤ l.length ∧ (cutAt l c).2.1.length ≤ l.length := by
  unfold cutAt
  split
  · simp
  · simp; omega

set_option maxHeartbeats 2000000 in
set_option maxRecDepth 100000 in
theorem parsePair_any (s : ByteArray) (hs : s.size ≤ 4611686018427387904) (w : World) :
    Calls Try.prog 35 #[.string s] w (TellsOne Value.string (onePair s) w) := by
  have HC := Lib.hid (cut_44 s hs)
  unfold cutV at HC
  obtain ⟨c, hc⟩ : ∃ c, c = cutAt s.data.toList 44 := ⟨_, rfl⟩
  have hl : c.1.length ≤ s.size := by rw [hc, ← size_list]; exact (cutAt_len _ _).1
  have HD := Lib.hid (cut_61 (str c.1) (by rw [str_size]; omega))
  unfold cutV at HD
  rw [str_toList] at HD
  obtain ⟨d, hd⟩ : ∃ d, d = cutAt c.1 61 := ⟨_, rfl⟩
  have HE : Hid (onePair s = if d.2.2 = true then some ((str d.1, str d.2.1), str c.2.1) else none) := Lib.hid (by rw [hd, hc]; rfl)
  rw [← hc] at HC
  rw [← hd] at HD
  clear hc hd hl
  obtain ⟨c1, c2, c3⟩ := c
  obtain ⟨d1, d2, d3⟩ := d
  have hb0 : Below w.heap.size w (w.alloc (.cells #[.string ByteArray.empty, .string ByteArray.empty] 48)) := (Below.refl _ _).alloc (Nat.le_refl _) _
  cases d3 with
  | true =>
    have HE1 : Hid (onePair s = some ((str d1, str d2), str c2)) := Lib.hid (by rw [HE.out]; rfl)
    clear HE
    go_enter Try.func35, Try.ntmps35
    go_wp2_with fail
    refine (HC.out _).mono ?_
    rintro e w1 ⟨rfl, hb1⟩
    go_wp2_with fail
    refine (HD.out _).mono ?_
    rintro e w2 ⟨rfl, hb2⟩
    have hb3 := hb1.trans (hb2.mono hb1.size)
    obtain ⟨k0, f0, k1, f1, hbk⟩ := two_set ((hb3.block w.heap.size (by simp)).trans (heap_alloc_new _ _)) (.string (str d1)) (.string (str d2))
    have hbs := ((hb0.trans (hb3.mono hb0.size)).setCell (p := ⟨w.heap.size, 0, none⟩) (Nat.le_refl _) (.string (str d1))).setCell (p := ⟨w.heap.size, 1, none⟩) (Nat.le_refl _) (.string (str d2))
    obtain ⟨e0, e1⟩ := two_cells hbk
    go_wp2
    refine bodyPost_ret (v := .tuple #[.agg #[.string (str d1), .string (str d2)], .string (str c2), .bool true]) (by simp [results, Try.results35, go_sem, e0, e1]) rfl ?_
    rw [HE1.out]
    exact ⟨rfl, hbs⟩
  | false =>
    have HE1 : Hid (onePair s = none) := Lib.hid (by rw [HE.out]; rfl)
    clear HE
    go_enter Try.func35, Try.ntmps35
    go_wp2_with fail
    refine (HC.out _).mono ?_
    rintro e w1 ⟨rfl, hb1⟩
    go_wp2_with fail
    refine (HD.out _).mono ?_
    rintro e w2 ⟨rfl, hb2⟩
    have hb3 := hb1.trans (hb2.mono hb1.size)
    obtain ⟨k0, f0, k1, f1, hbk⟩ := two_set ((hb3.block w.heap.size (by simp)).trans (heap_alloc_new _ _)) (.string ⟨#[]⟩) (.string ⟨#[]⟩)
    have hbs := ((hb0.trans (hb3.mono hb0.size)).setCell (p := ⟨w.heap.size, 0, none⟩) (Nat.le_refl _) (.string ⟨#[]⟩)).setCell (p := ⟨w.heap.size, 1, none⟩) (Nat.le_refl _) (.string ⟨#[]⟩)
    obtain ⟨e0, e1⟩ := two_cells hbk
    go_wp2
    refine bodyPost_ret (v := .tuple #[.agg #[.string ⟨#[]⟩, .string ⟨#[]⟩], .string ⟨#[]⟩, .bool false]) (by simp [results, Try.results35, go_sem, e0, e1]) rfl ?_
    rw [HE1.out]
    exact ⟨⟨none2, _, rfl⟩, hbs⟩

theorem enters_pair (args : Array Value) (w : World) : (callFunc 35 args).run Try.prog w = .ok (.enter 35 args) w := by kernel_rfl

/-- What was read, if it is right. -/
def keepRight {π : Type} : Option (List Pr × π) → Option (List Pr)
  | none => none
  | some x => if rightL x.1 = true then some x.1 else none
/-- The labels whose text that is: P4.2. -/
def parseL (s : ByteArray) : Option (List Pr) :=
  if (s.toList == [45]) = true then some [] else
  if 8 < s.data.toList.count 44 + 1 then none else
  keepRight (readN onePair (s.data.toList.count 44 + 1) s)
/-- What Parse tells. -/
def TellsL (r : Option (List Pr)) (w : World) (e : Ending) (w' : World) : Prop :=
  (match r with
    | some ls => ∃ v, e = .returned (.tuple #[v, .bool true]) ∧ Row w' v ls
    | none => e = .returned (.tuple #[.slice none 0 0, .bool false])) ∧ Below w.heap.size w w'

theorem readN_len {π : Type} {one : π → Option (Pr × π)} : ∀ {n : Nat} {p : π} {x : List Pr × π}, readN one n p = some x → x.1.length = n
  | 0, p, x, h => by simp [readN] at h; subst h; rfl
  | n + 1, p, x, h => by
    unfold readN at h
    split at h
    · simp at h
    · split at h
      · simp at h
      · rename_i y hy
        simp at h; subst h
        simp [readN_len hy]
theorem onePair_len {p : ByteArray} {x : Pr} {q : ByteArray} (h : onePair p = some (x, q)) : q.size ≤ p.size := by
  unfold onePair at h
  split at h
  · simp at h
    rw [← h.2, str_size, ← size_list p]
    exact (cutAt_len _ _).2
  · simp at h

set_option maxHeartbeats 2000000 in
set_option maxRecDepth 100000 in
theorem parse_any (s : ByteArray) (hs : s.size ≤ 4611686018427387904) (w : World) :
    Calls Try.prog 15 #[.string s] w (TellsL (parseL s) w) := by
  obtain ⟨n, hn⟩ : ∃ n, n = s.data.toList.count 44 := ⟨_, rfl⟩
  have hns : n ≤ s.size := by rw [hn, ← size_list]; exact List.count_le_length
  have HC : Hid (∀ w, Calls Try.prog 33 #[.string s, .string ⟨#[44]⟩] w fun e w' => e = .returned (.int .i64 n) ∧ w' = w) := Lib.hid fun w => by rw [hn]; exact Any.strings_Count_one Laid.lays138 s 44 w
  have HE : Hid (parseL s = if (s.toList == [45]) = true then some [] else if 8 < n + 1 then none else keepRight (readN onePair (n + 1) s)) := Lib.hid (by rw [hn]; rfl)
  clear hn
  obtain ⟨q, hq⟩ : ∃ q, (s.toList == [45]) = q := ⟨_, rfl⟩
  cases q with
  | true =>
    have HE1 : Hid (parseL s = some []) := Lib.hid (by rw [HE.out, if_pos hq])
    clear HE
    go_enter Try.func15, Try.ntmps15
    go_wp2
    go_ret2
    rw [HE1.out]
    exact ⟨⟨_, rfl, .inl ⟨rfl, _, _, rfl, Nat.zero_le _⟩⟩, Below.refl _ _⟩
  | false =>
    by_cases h8 : 8 < n + 1
    · have h8z : (8 : Int) < (n : Int) + 1 := by omega
      have HE1 : Hid (parseL s = none) := Lib.hid (by rw [HE.out, if_neg (by rw [hq]; simp), if_pos h8])
      clear HE
      go_enter Try.func15, Try.ntmps15
      go_wp2_with fail
      refine (HC.out _).mono ?_
      rintro e w1 ⟨rfl, rfl⟩
      go_wp2
      go_ret2
      rw [HE1.out]
      exact ⟨rfl, Below.refl _ _⟩
    · have h8z : ¬ ((8 : Int) < (n : Int) + 1) := by omega
      obtain ⟨r, hr⟩ : ∃ r, readN onePair (n + 1) s = r := ⟨_, rfl⟩
      have HE1 : Hid (parseL s = keepRight r) := Lib.hid (by rw [HE.out, if_neg (by rw [hq]; simp), if_neg h8, hr])
      have HLen : Hid (∀ x, r = some x → x.1.length ≤ 8) := Lib.hid fun x hx => by rw [hx] at hr; rw [readN_len hr]; omega
      have HR : Hid (Calls Try.prog 34 #[.int .i64 ((n : Int) + 1), .string s, .func (.func 35) #[] #[]] w (TellsAll Value.string r w)) := Lib.hid (by
        rw [← hr]
        exact readAll_string Value.string onePair 35 #[] (n + 1) (by omega) s w enters_pair (fun p => p.size ≤ 4611686018427387904) hs (fun p x q hp h => by have := onePair_len h; show q.size ≤ _; omega) (fun p w' hp _ => parsePair_any p hp w'))
      clear HE hr
      cases r with
      | none =>
        go_enter Try.func15, Try.ntmps15
        go_wp2_with fail
        refine (HC.out _).mono ?_
        rintro e w1 ⟨rfl, rfl⟩
        go_wp2_with fail
        refine HR.out.mono ?_
        rintro e w2 ⟨⟨q, rfl⟩, hb⟩
        go_wp2
        go_ret2
        rw [HE1.out]
        exact ⟨rfl, hb⟩
      | some x =>
        go_enter Try.func15, Try.ntmps15
        go_wp2_with fail
        refine (HC.out _).mono ?_
        rintro e w1 ⟨rfl, rfl⟩
        go_wp2_with fail
        refine HR.out.mono ?_
        rintro e w2 ⟨⟨v, rfl, hv⟩, hb⟩
        have HV := Lib.hid hv
        obtain ⟨g, hg⟩ : ∃ g, rightL x.1 = g := ⟨_, rfl⟩
        have HRt : Hid (Calls Try.prog 18 #[v] w2 fun e w' => e = .returned (.bool g) ∧ Below w2.heap.size w2 w') := Lib.hid (by rw [← hg]; exact right_rows v x.1 w2 hv (by have := HLen.out x rfl; omega))
        have HE2 : Hid (parseL s = if g = true then some x.1 else none) := Lib.hid (by rw [HE1.out, ← hg]; rfl)
        clear hv hg HE1
        go_wp2_with fail
        refine HRt.out.mono ?_
        rintro e w3 ⟨rfl, hb3⟩
        have hb' := hb.trans (hb3.mono hb.size)
        have HV3 := Lib.hid (HV.out.below hb3)
        cases g with
        | true =>
          have HE3 : Hid (parseL s = some x.1) := Lib.hid (by rw [HE2.out, if_pos rfl])
          clear HE2
          go_wp2
          go_ret2
          rw [HE3.out]
          exact ⟨⟨_, rfl, HV3.out⟩, hb'⟩
        | false =>
          have HE3 : Hid (parseL s = none) := Lib.hid (by rw [HE2.out, if_neg (by simp)])
          clear HE2
          go_wp2
          go_ret2
          rw [HE3.out]
          exact ⟨rfl, hb'⟩
end Go.Proofs.Ytpkaejacnblplaa.Label
