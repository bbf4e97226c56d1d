/- What label.readAll does with whatever function is handed in: it reads item by item, from a place on, till one is none; the items in a row of its own. Of memory that was there nothing turns. -/
import Derived.Test.YtpkaejacnblplaaLRightV
import Derived.OwnWalk
namespace Go.Proofs.Ytpkaejacnblplaa.Label
open Go.RowKit Go.Proofs.Ytpkaejacnblplaa.Word Go.Sort

/-- A pair as a value. -/
def pr (x : Pr) : Value := .agg #[.string x.1, .string x.2]
def none2 : Pr := (⟨#[]⟩, ⟨#[]⟩)
/-- So many items, one behind the other, from a place on. -/
def readN {π : Type} (one : π → Option (Pr × π)) : Nat → π → Option (List Pr × π)
  | 0, p => some ([], p)
  | n + 1, p => match one p with
    | none => none
    | some x => match readN one n x.2 with
      | none => none
      | some y => some (x.1 :: y.1, y.2)
def ahead (done : List Pr) {π : Type} : Option (List Pr × π) → Option (List Pr × π)
  | none => none
  | some x => some (done ++ x.1, x.2)
theorem readN_go {π : Type} {one : π → Option (Pr × π)} {n : Nat} {p q : π} {x : Pr} {done : List Pr} (h : one p = some (x, q)) : ahead done (readN one (n + 1) p) = ahead (done ++ [x]) (readN one n q) := by
  rw [readN, h]
  simp only
  cases readN one n q with
  | none => rfl
  | some y => simp [ahead]
theorem readN_stop {π : Type} {one : π → Option (Pr × π)} {n : Nat} {p : π} {done : List Pr} (h : one p = none) : ahead done (readN one (n + 1) p) = none := by
  rw [readN, h]; rfl

/-- What a function that reads one tells. -/
def TellsOne {π : Type} (encP : π → Value) (r : Option (Pr × π)) (w : World) (e : Ending) (w' : World) : Prop :=
  (match r with
    | some x => e = .returned (.tuple #[.agg #[.string x.1.1, .string x.1.2], encP x.2, .bool true])
    | none => ∃ (u : Pr) (q : π), e = .returned (.tuple #[.agg #[.string u.1, .string u.2], encP q, .bool false])) ∧ Below w.heap.size w w'
def TellsAll {π : Type} (encP : π → Value) (r : Option (List Pr × π)) (w : World) (e : Ending) (w' : World) : Prop :=
  (match r with
    | some x => ∃ v, e = .returned (.tuple #[v, encP x.2, .bool true]) ∧ Row w' v x.1
    | none => ∃ q : π, e = .returned (.tuple #[.slice none 0 0, encP q, .bool false])) ∧ Below w.heap.size w w'

theorem fm_get : ∀ (ls : List Pr) (j : Nat) (x : Pr), ls[j]? = some x → (ls.flatMap enc)[j * 2]? = some (.string x.1) ∧ (ls.flatMap enc)[j * 2 + 1]? = some (.string x.2)
  | [], j, x, h => by simp at h
  | a :: r, 0, x, h => by simp at h; subst h; simp [enc]
  | a :: r, j + 1, x, h => by
    have := fm_get r j x (by simpa using h)
    rw [List.flatMap_cons, show (j + 1) * 2 = j * 2 + 2 by omega, show j * 2 + 2 + 1 = (j * 2 + 1) + 2 by omega]
    exact this
theorem own_row {B : Nat} {w : World} {v : Value} {ls : List Pr} (h : w.ownsRow B 48 2 v ls.length (ls.flatMap enc)) : Row w v ls := by
  have hc := fun g hg => h.cells (g := g) hg
  rcases h.2 with ⟨rfl, h0⟩ | ⟨g, cap, cur, rfl, hB, hg, hcap, hm, hsz, htake⟩
  · exact .inl ⟨List.eq_nil_of_length_eq_zero h0, _, _, rfl, Nat.zero_le _⟩
  · by_cases hl : ls = []
    · subst hl; exact .inl ⟨rfl, _, _, rfl, hm⟩
    · refine .inr ⟨hl, g, 0, cap, rfl, (Array.getElem?_eq_some_iff.1 hg).1, hcap, hm, fun j x hj => ?_⟩
      obtain ⟨h0, h1⟩ := fm_get ls j x hj
      have e0 := hc g rfl _ _ h0
      have e1 := hc g rfl _ _ h1
      rw [Addr.add_lit] at e0 e1
      exact ⟨e0, e1⟩
theorem own_kept {B : Nat} {w w' : World} {T : TypeId} {s n : Nat} {v : Value} {xs : List Value} (h : w.ownsRow B T s v n xs) (hk : ∀ g, v.ownBlock = some g → w'.heap[g]? = w.heap[g]?) : w'.ownsRow B T s v n xs := by
  refine ⟨h.1, ?_⟩
  rcases h.2 with hn | ⟨g, cap, cur, rfl, hB, hg, rest⟩
  · exact .inl hn
  · exact .inr ⟨g, cap, cur, rfl, hB, (hk g rfl).trans hg, rest⟩
theorem new_two (w : World) (x y : Value) : ∀ j u, [x, y][j]? = some u → (w.alloc (.cells #[x, y] 48)).cell? ((⟨w.heap.size, 0, none⟩ : Addr).add j) = some u := by
  intro j u hj
  have h : (w.alloc (.cells #[x, y] 48)).heap[w.heap.size]? = some (.cells #[x, y] 48) := heap_alloc_new _ _
  rw [Addr.add_lit]
  match j with
  | 0 => simp at hj; subst hj; simp only [World.cell?, h]; rfl
  | 1 => simp at hj; subst hj; simp only [World.cell?, h]; rfl
  | (n + 2) => simp at hj
theorem fm_snoc (ls : List Pr) (x : Pr) : (ls ++ [x]).flatMap enc = ls.flatMap enc ++ [.string x.1, .string x.2] := by simp [enc]

/-- A block of two texts, and the same with both written. -/
theorem two_set {w : World} {b : Nat} {u v : Value} (h : w.heap[b]? = some (.cells #[u, v] 48)) (x y : Value) :
    w.cell? ⟨b, 0, none⟩ = some u ∧ w.frozen? ⟨b, 0, none⟩ = false ∧ (w.setCell ⟨b, 0, none⟩ x).cell? ⟨b, 1, none⟩ = some v ∧ (w.setCell ⟨b, 0, none⟩ x).frozen? ⟨b, 1, none⟩ = false ∧
    ((w.setCell ⟨b, 0, none⟩ x).setCell ⟨b, 1, none⟩ y).heap[b]? = some (.cells #[x, y] 48) := by
  have h1 := heap_setCell_same w b 0 _ _ x h
  have h2 := heap_setCell_same _ b 1 _ _ y h1
  refine ⟨by simp [World.cell?, h], by simp [World.frozen?, h], by simp [World.cell?, h1], by simp [World.frozen?, h1], h2⟩
theorem two_cells {w : World} {b : Nat} {u v : Value} (h : w.heap[b]? = some (.cells #[u, v] 48)) : w.cell? ⟨b, 0, none⟩ = some u ∧ w.cell? ⟨b, 1, none⟩ = some v := ⟨by simp [World.cell?, h], by simp [World.cell?, h]⟩

set_option maxHeartbeats 4000000 in
set_option maxRecDepth 100000 in
theorem readAll_int {π : Type} (encP : π → Value) (one : π → Option (Pr × π)) (f : FuncId) (cap : Array Value) (n : Nat) (hn : n ≤ 8) (p0 : π) (w : World)
    (hf : ∀ (args : Array Value) (w : World), (callFunc f args).run Try.prog w = .ok (.enter f args) w)
    (ok : π → Prop) (h0 : ok p0) (hok : ∀ p x q, ok p → one p = some (x, q) → ok q)
    (hone : ∀ (p : π) (w' : World), ok p → Below w.heap.size w w' → Calls Try.prog f (#[encP p] ++ cap) w' (TellsOne encP (one p) w')) :
    Calls Try.prog 28 #[.int .i64 n, encP p0, .func (.func f) #[] cap] w (TellsAll encP (readN one n p0) w) := by
  obtain ⟨i0, hi, hz0, hz1, hz2⟩ := info_parts infoP
  have HO := Lib.hid hone
  have HK := Lib.hid hok
  have H0 := Lib.hid h0
  clear hone hok h0
  go_enter Try.func28, Try.ntmps28
  go_wp2
  go_loopw [6, 7, 12] (fun t pl i wr => ∃ (k : Nat) (p : π) (done : List Pr), i = .int .i64 k ∧ k ≤ n ∧ done.length = k ∧ pl = encP p ∧ ok p ∧ ahead done (readN one (n - k) p) = readN one n p0 ∧ wr.ownsRow w.heap.size 48 2 t done.length (done.flatMap enc) ∧ Below w.heap.size w wr) (fun _ _ i _ => n - (intOf i).toNat)
  case atStart => exact ⟨0, p0, [], rfl, Nat.zero_le _, rfl, rfl, H0.out, by show ahead [] (readN one (n - 0) p0) = _; rw [Nat.sub_zero]; cases readN one n p0 <;> rfl, World.ownsRow_nil _ _ _ _, Below.refl _ _⟩
  case round =>
    obtain ⟨k, p, done, rfl, hk, hd, rfl, hop, hrd, hown, hb⟩ := hrel
    have HOP := Lib.hid hop
    clear hop
    have HD := Lib.hid hd
    have HRD := Lib.hid hrd
    have HOWN := Lib.hid hown
    clear hd hrd hown
    by_cases hlt : k < n
    · have hltz : (k : Int) < (n : Int) := by omega
      have hbA : Below w.heap.size w (wr.alloc (.cells #[.string ByteArray.empty, .string ByteArray.empty] 48)) := hb.alloc hb.size _
      have hcall := HO.out p _ HOP.out hbA
      obtain ⟨r, hr⟩ : ∃ r, one p = r := ⟨_, rfl⟩
      rw [hr] at hcall
      have HR := Lib.hid hr
      have HC := Lib.hid hcall
      clear hr hcall
      cases r with
      | none =>
        go_wp2_with fail
        refine HC.out.mono ?_
        rintro e w2 ⟨⟨u, q, rfl⟩, hb2⟩
        obtain ⟨k0, f0, k1, f1, hbk⟩ := two_set ((hb2.block wr.heap.size (by simp)).trans (heap_alloc_new _ _)) (.string u.1) (.string u.2)
        have hbs := ((hbA.trans (hb2.mono hbA.size)).setCell (p := ⟨wr.heap.size, 0, none⟩) hb.size (.string u.1)).setCell (p := ⟨wr.heap.size, 1, none⟩) hb.size (.string u.2)
        obtain ⟨u1, u2⟩ := u
        go_wp2
        go_ret3
        have := HRD.out
        rw [show n - k = (n - k - 1) + 1 by omega, readN_stop HR.out] at this
        rw [← this]
        exact ⟨⟨q, rfl⟩, hbs⟩
      | some y =>
        obtain ⟨x, q⟩ := y
        go_wp2_with fail
        refine HC.out.mono ?_
        rintro e w2 ⟨rfl, hb2⟩
        obtain ⟨k0, f0, k1, f1, hbk⟩ := two_set ((hb2.block wr.heap.size (by simp)).trans (heap_alloc_new _ _)) (.string x.1) (.string x.2)
        have hbs := ((hbA.trans (hb2.mono hbA.size)).setCell (p := ⟨wr.heap.size, 0, none⟩) hb.size (.string x.1)).setCell (p := ⟨wr.heap.size, 1, none⟩) hb.size (.string x.2)
        obtain ⟨c0, c1⟩ := two_cells hbk
        obtain ⟨x1, x2⟩ := x
        have hown3 : ((w2.setCell ⟨wr.heap.size, 0, none⟩ (.string x1)).setCell ⟨wr.heap.size, 1, none⟩ (.string x2)).ownsRow w.heap.size 48 2 u6 done.length (done.flatMap enc) := own_kept HOWN.out (fun g hg => by
          have hl := (HOWN.out.lt g hg).2
          rw [setCell_eq, setCell_eq]
          show (((w2.heap.modify wr.heap.size _)).modify wr.heap.size _)[g]? = _
          rw [Array.getElem?_modify, if_neg (by omega), Array.getElem?_modify, if_neg (by omega), hb2.block g (by simp; omega), heap_alloc_old _ _ hl])
        have hsz : ((w2.setCell ⟨wr.heap.size, 0, none⟩ (.string x1)).setCell ⟨wr.heap.size, 1, none⟩ (.string x2)).heap.size = w2.heap.size := by rw [size_set, size_set]
        have HSZ := Lib.hid hsz
        clear hsz
        go_wp2_with (at_builtin; refine wpList_append_own _ rfl _ _ 22 rfl w.heap.size 48 i0 (.agg #[.string ByteArray.empty, .string ByteArray.empty]) 2 32 Try.underlying22 hi hz0 hz1 hz2 rfl (by decide) _ _ _ rfl (hown3.alloc _) ⟨w2.heap.size, 0, none⟩ 1 1 [.string x1, .string x2] rfl rfl ?c1 ?c2 ?c3 ?c4 ?c5 ?_)
        case c1 => rw [← HSZ.out]; exact new_two _ _ _
        case c2 => intro u hu; simp at hu; rcases hu with rfl | rfl <;> rfl
        case c3 => have := HD.out; unfold maxLen; omega
        case c4 => have := HD.out; omega
        case c5 => have := hbs.size; rw [World.size_alloc]; omega
        intro v' w4 hown' hgrow _
        have hown4 : w4.ownsRow w.heap.size 48 2 v' (done ++ [(x1, x2)]).length ((done ++ [(x1, x2)]).flatMap enc) := by rw [fm_snoc]; simpa using hown'
        have hb4 : Below w.heap.size w w4 := (hbs.alloc hbs.size _).grown hgrow (by have := hbs.size; simp at this ⊢; omega) (fun k hk => (hown3.lt k hk).1)
        clear hown3 hown' hgrow
        go_wp2
        go_roundw
        case rel => exact ⟨k + 1, q, done ++ [(x1, x2)], by go_num, by omega, by simp [HD.out], rfl, HK.out p _ q HOP.out HR.out, by rw [← HRD.out, show n - k = (n - (k + 1)) + 1 by omega]; exact (readN_go HR.out).symm, hown4, hb4⟩
        case measure => simp [intOf]; omega
    · have hltz : ¬ ((k : Int) < (n : Int)) := by omega
      go_wp2
      go_ret3
      have := HRD.out
      rw [show n - k = 0 by omega] at this
      rw [← this]
      exact ⟨⟨_, rfl, by show Row _ _ (done ++ []); rw [List.append_nil]; exact own_row HOWN.out⟩, hb⟩

set_option maxHeartbeats 4000000 in
set_option maxRecDepth 100000 in
theorem readAll_string {π : Type} (encP : π → Value) (one : π → Option (Pr × π)) (f : FuncId) (cap : Array Value) (n : Nat) (hn : n ≤ 8) (p0 : π) (w : World)
    (hf : ∀ (args : Array Value) (w : World), (callFunc f args).run Try.prog w = .ok (.enter f args) w)
    (ok : π → Prop) (h0 : ok p0) (hok : ∀ p x q, ok p → one p = some (x, q) → ok q)
    (hone : ∀ (p : π) (w' : World), ok p → Below w.heap.size w w' → Calls Try.prog f (#[encP p] ++ cap) w' (TellsOne encP (one p) w')) :
    Calls Try.prog 34 #[.int .i64 n, encP p0, .func (.func f) #[] cap] w (TellsAll encP (readN one n p0) w) := by
  obtain ⟨i0, hi, hz0, hz1, hz2⟩ := info_parts infoP
  have HO := Lib.hid hone
  have HK := Lib.hid hok
  have H0 := Lib.hid h0
  clear hone hok h0
  go_enter Try.func34, Try.ntmps34
  go_wp2
  go_loopw [6, 7, 12] (fun t pl i wr => ∃ (k : Nat) (p : π) (done : List Pr), i = .int .i64 k ∧ k ≤ n ∧ done.length = k ∧ pl = encP p ∧ ok p ∧ ahead done (readN one (n - k) p) = readN one n p0 ∧ wr.ownsRow w.heap.size 48 2 t done.length (done.flatMap enc) ∧ Below w.heap.size w wr) (fun _ _ i _ => n - (intOf i).toNat)
  case atStart => exact ⟨0, p0, [], rfl, Nat.zero_le _, rfl, rfl, H0.out, by show ahead [] (readN one (n - 0) p0) = _; rw [Nat.sub_zero]; cases readN one n p0 <;> rfl, World.ownsRow_nil _ _ _ _, Below.refl _ _⟩
  case round =>
    obtain ⟨k, p, done, rfl, hk, hd, rfl, hop, hrd, hown, hb⟩ := hrel
    have HOP := Lib.hid hop
    clear hop
    have HD := Lib.hid hd
    have HRD := Lib.hid hrd
    have HOWN := Lib.hid hown
    clear hd hrd hown
    by_cases hlt : k < n
    · have hltz : (k : Int) < (n : Int) := by omega
      have hbA : Below w.heap.size w (wr.alloc (.cells #[.string ByteArray.empty, .string ByteArray.empty] 48)) := hb.alloc hb.size _
      have hcall := HO.out p _ HOP.out hbA
      obtain ⟨r, hr⟩ : ∃ r, one p = r := ⟨_, rfl⟩
      rw [hr] at hcall
      have HR := Lib.hid hr
      have HC := Lib.hid hcall
      clear hr hcall
      cases r with
      | none =>
        go_wp2_with fail
        refine HC.out.mono ?_
        rintro e w2 ⟨⟨u, q, rfl⟩, hb2⟩
        obtain ⟨k0, f0, k1, f1, hbk⟩ := two_set ((hb2.block wr.heap.size (by simp)).trans (heap_alloc_new _ _)) (.string u.1) (.string u.2)
        have hbs := ((hbA.trans (hb2.mono hbA.size)).setCell (p := ⟨wr.heap.size, 0, none⟩) hb.size (.string u.1)).setCell (p := ⟨wr.heap.size, 1, none⟩) hb.size (.string u.2)
        obtain ⟨u1, u2⟩ := u
        go_wp2
        go_ret3
        have := HRD.out
        rw [show n - k = (n - k - 1) + 1 by omega, readN_stop HR.out] at this
        rw [← this]
        exact ⟨⟨q, rfl⟩, hbs⟩
      | some y =>
        obtain ⟨x, q⟩ := y
        go_wp2_with fail
        refine HC.out.mono ?_
        rintro e w2 ⟨rfl, hb2⟩
        obtain ⟨k0, f0, k1, f1, hbk⟩ := two_set ((hb2.block wr.heap.size (by simp)).trans (heap_alloc_new _ _)) (.string x.1) (.string x.2)
        have hbs := ((hbA.trans (hb2.mono hbA.size)).setCell (p := ⟨wr.heap.size, 0, none⟩) hb.size (.string x.1)).setCell (p := ⟨wr.heap.size, 1, none⟩) hb.size (.string x.2)
        obtain ⟨c0, c1⟩ := two_cells hbk
        obtain ⟨x1, x2⟩ := x
        have hown3 : ((w2.setCell ⟨wr.heap.size, 0, none⟩ (.string x1)).setCell ⟨wr.heap.size, 1, none⟩ (.string x2)).ownsRow w.heap.size 48 2 u6 done.length (done.flatMap enc) := own_kept HOWN.out (fun g hg => by
          have hl := (HOWN.out.lt g hg).2
          rw [setCell_eq, setCell_eq]
          show (((w2.heap.modify wr.heap.size _)).modify wr.heap.size _)[g]? = _
          rw [Array.getElem?_modify, if_neg (by omega), Array.getElem?_modify, if_neg (by omega), hb2.block g (by simp; omega), heap_alloc_old _ _ hl])
        have hsz : ((w2.setCell ⟨wr.heap.size, 0, none⟩ (.string x1)).setCell ⟨wr.heap.size, 1, none⟩ (.string x2)).heap.size = w2.heap.size := by rw [size_set, size_set]
        have HSZ := Lib.hid hsz
        clear hsz
        go_wp2_with (at_builtin; refine wpList_append_own _ rfl _ _ 22 rfl w.heap.size 48 i0 (.agg #[.string ByteArray.empty, .string ByteArray.empty]) 2 32 Try.underlying22 hi hz0 hz1 hz2 rfl (by decide) _ _ _ rfl (hown3.alloc _) ⟨w2.heap.size, 0, none⟩ 1 1 [.string x1, .string x2] rfl rfl ?c1 ?c2 ?c3 ?c4 ?c5 ?_)
        case c1 => rw [← HSZ.out]; exact new_two _ _ _
        case c2 => intro u hu; simp at hu; rcases hu with rfl | rfl <;> rfl
        case c3 => have := HD.out; unfold maxLen; omega
        case c4 => have := HD.out; omega
        case c5 => have := hbs.size; rw [World.size_alloc]; omega
        intro v' w4 hown' hgrow _
        have hown4 : w4.ownsRow w.heap.size 48 2 v' (done ++ [(x1, x2)]).length ((done ++ [(x1, x2)]).flatMap enc) := by rw [fm_snoc]; simpa using hown'
        have hb4 : Below w.heap.size w w4 := (hbs.alloc hbs.size _).grown hgrow (by have := hbs.size; simp at this ⊢; omega) (fun k hk => (hown3.lt k hk).1)
        clear hown3 hown' hgrow
        go_wp2
        go_roundw
        case rel => exact ⟨k + 1, q, done ++ [(x1, x2)], by go_num, by omega, by simp [HD.out], rfl, HK.out p _ q HOP.out HR.out, by rw [← HRD.out, show n - k = (n - (k + 1)) + 1 by omega]; exact (readN_go HR.out).symm, hown4, hb4⟩
        case measure => simp [intOf]; omega
    · have hltz : ¬ ((k : Int) < (n : Int)) := by omega
      go_wp2
      go_ret3
      have := HRD.out
      rw [show n - k = 0 by omega] at this
      rw [← this]
      exact ⟨⟨_, rfl, by show Row _ _ (done ++ []); rw [List.append_nil]; exact own_row HOWN.out⟩, hb⟩
end Go.Proofs.Ytpkaejacnblplaa.Label
