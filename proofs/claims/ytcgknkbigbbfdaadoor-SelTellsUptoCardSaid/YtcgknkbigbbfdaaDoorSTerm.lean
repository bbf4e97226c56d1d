/- What sel.parseTerm answers of any piece: the term that is read of it, if it is right; else it leaves by a panic. Of memory that was there nothing turns. -/
import Derived.Test.YtcgknkbigbbfdaaDoorSSure
namespace Go.Proofs.YtcgknkbigbbfdaaDoor.Sel
open Go.RowKit Go.Proofs.YtcgknkbigbbfdaaDoor.Texts Go.Proofs.YtcgknkbigbbfdaaDoor.Word Go.Proofs.YtcgknkbigbbfdaaDoor.Forms Go.Proofs.YtcgknkbigbbfdaaDoor.Split Go.Proofs.YtcgknkbigbbfdaaDoor.Boxes

/-- A slice of texts whose row stands from a block on. -/
def SNew (B : Nat) (w : World) (v : Value) (ts : List ByteArray) : Prop := SRow w v ts ∧ ∀ g o n c, v = .slice (some ⟨g, o, none⟩) n c → ts ≠ [] → B ≤ g
theorem SNew.nil (B : Nat) (w : World) : SNew B w (.slice none 0 0) [] := ⟨SRow.nil w, fun _ _ _ _ h => by cases h⟩
theorem SNew.below {B : Nat} {w w' : World} {v : Value} {ts : List ByteArray} (h : SNew B w v ts) (hb : Below w.heap.size w w') : SNew B w' v ts := ⟨h.1.below hb, h.2⟩
theorem SNew.row {B : Nat} {w : World} {v : Value} {ts : List ByteArray} (h : SNew B w v ts) : SRow w v ts := h.1
theorem SNew.mono {B B' : Nat} {w : World} {v : Value} {ts : List ByteArray} (h : SNew B w v ts) (hB : B' ≤ B) : SNew B' w v ts := ⟨h.1, fun g o n c e hn => Nat.le_trans hB (h.2 g o n c e hn)⟩
theorem SNew.but {B R : Nat} {w w' : World} {v : Value} {ts : List ByteArray} (h : SNew B w v ts) (hb : But R w w') (hR : R < B) : SNew B w' v ts := by
  refine ⟨?_, h.2⟩
  rcases h.1 with h1 | ⟨h0, g, o, cap, h1, h2, h3, h4, h5⟩
  · exact .inl h1
  · have hg := h.2 g o _ _ h1 h0
    refine .inr ⟨h0, g, o, cap, h1, by have := hb.size; omega, h3, h4, fun j t hj => ?_⟩
    rw [hb.cell (a := ⟨g, o + j, none⟩) h2 (by show g ≠ R; omega)]
    exact h5 j t hj
/-- A term as a value, whose row of values stands from a block on. -/
def TNew (B : Nat) (w : World) (v : Value) (t : Tm) : Prop := ∃ s, v = .agg #[.string t.1, .bool t.2.1, s] ∧ SNew B w s t.2.2

/-- What split tells, with where its row stands. -/
theorem split_new (c : UInt8) (s : ByteArray) (hs : s.size ≤ 4611686018427387904) (h4 : (cuts c s.data.toList).length ≤ 4) (w : World) :
    Calls Tryd.prog 34 #[.string s, .string ⟨#[c]⟩, .int .i64 4] w fun e w' => (∃ a cap, e = .returned (.slice a ((cuts c s.data.toList).map str).length cap) ∧ SNew w.heap.size w' (.slice a ((cuts c s.data.toList).map str).length cap) ((cuts c s.data.toList).map str)) ∧ Below w.heap.size w w' := by
  refine (split_at c s hs h4 w).mono ?_
  rintro e w' ⟨⟨cap, rfl, h⟩, hb⟩
  refine ⟨⟨_, cap, rfl, h, fun g o n c he _ => ?_⟩, hb⟩
  injection he with h1 _ _
  injection h1 with h1
  injection h1 with h1 _ _
  omega

def Read (t : Tm) (w : World) (e : Ending) (w' : World) : Prop := (∃ v, e = .returned v ∧ TNew w.heap.size w' v t) ∧ Below w.heap.size w w'

set_option maxHeartbeats 1000000 in
set_option maxRecDepth 100000 in
theorem ahead_yes (q k : ByteArray) (w : World) (HP : Hid (∀ W, Calls Tryd.prog 57 #[.string q, .string ⟨#[33]⟩] W fun e w' => e = .returned (.tuple #[.string k, .bool true]) ∧ w' = W))
    (HS : Hid (∀ W, Below w.heap.size w W → Calls Tryd.prog 54 #[.agg #[.string k, .bool true, .slice none 0 0]] W fun e w' => e = .returned (.agg #[.string k, .bool true, .slice none 0 0]) ∧ Below W.heap.size W w')) :
    Calls Tryd.prog 35 #[.string q] w (Read (k, true, []) w) := by
  go_enter Tryd.func35, Tryd.ntmps35
  go_wp2_with fail
  with_reducible refine (HP.out _).mono ?_
  rintro e _ ⟨rfl, rfl⟩
  go_wp2_with fail
  with_reducible refine (HS.out _ (grew w _)).mono ?_
  rintro e w1 ⟨rfl, hb1⟩
  have hb := grows (grew w _) hb1
  have hB := keep (fresh w _) hb1
  obtain ⟨d0, d1, d2, f0, f1, f2⟩ := cells3 hB
  obtain ⟨e0, e1, e2, _⟩ := cells3 (set3_box hB (.string k) (.bool true) (.slice none 0 0))
  have hz := set3_below (a := .string k) (b := .bool true) (c := (.slice none 0 0)) (T := w.heap.size) hb (Nat.le_refl _)
  have hzz := set3_below (a := .string k) (b := .bool true) (c := (.slice none 0 0)) (T := w.heap.size) (H := w.heap.size) (Below.refl _ w1) (Nat.le_refl _)
  clear hb1
  unfold set3 at e0 e1 e2 hz
  clear hB hzz
  go_wp2
  refine bodyPost_ret (v := .agg #[.string k, .bool true, (.slice none 0 0)]) (by simp [results, Tryd.results35, go_sem, e0, e1, e2]) rfl ?_
  exact ⟨⟨_, rfl, _, rfl, SNew.nil _ _⟩, hz⟩

set_option maxHeartbeats 1000000 in
set_option maxRecDepth 100000 in
theorem bare_yes (q k j : ByteArray) (w : World) (HP : Hid (∀ W, Calls Tryd.prog 57 #[.string q, .string ⟨#[33]⟩] W fun e w' => e = .returned (.tuple #[.string q, .bool false]) ∧ w' = W))
    (HC : Hid (∀ W, Calls Tryd.prog 58 #[.string q, .string ⟨#[61]⟩] W fun e w' => e = .returned (.tuple #[.string k, .string j, .bool false]) ∧ Below W.heap.size W w'))
    (HS : Hid (∀ W, Below w.heap.size w W → Calls Tryd.prog 54 #[.agg #[.string k, .bool false, .slice none 0 0]] W fun e w' => e = .returned (.agg #[.string k, .bool false, .slice none 0 0]) ∧ Below W.heap.size W w')) :
    Calls Tryd.prog 35 #[.string q] w (Read (k, false, []) w) := by
  go_enter Tryd.func35, Tryd.ntmps35
  go_wp2_with fail
  with_reducible refine (HP.out _).mono ?_
  rintro e _ ⟨rfl, rfl⟩
  go_wp2_with fail
  with_reducible refine (HC.out _).mono ?_
  rintro e w2 ⟨rfl, hb2⟩
  have hb0 := grows (grew w _) hb2
  go_wp2_with fail
  with_reducible refine (HS.out _ hb0).mono ?_
  rintro e w1 ⟨rfl, hb1⟩
  have hb := grows hb0 hb1
  have hB := keep (fresh w _) (grows hb2 hb1)
  obtain ⟨d0, d1, d2, f0, f1, f2⟩ := cells3 hB
  obtain ⟨e0, e1, e2, _⟩ := cells3 (set3_box hB (.string k) (.bool false) (.slice none 0 0))
  have hz := set3_below (a := .string k) (b := .bool false) (c := (.slice none 0 0)) (T := w.heap.size) hb (Nat.le_refl _)
  have hzz := set3_below (a := .string k) (b := .bool false) (c := (.slice none 0 0)) (T := w.heap.size) (H := w.heap.size) (Below.refl _ w1) (Nat.le_refl _)
  clear hb1 hb2
  unfold set3 at e0 e1 e2 hz
  clear hB hzz
  go_wp2
  refine bodyPost_ret (v := .agg #[.string k, .bool false, (.slice none 0 0)]) (by simp [results, Tryd.results35, go_sem, e0, e1, e2]) rfl ?_
  exact ⟨⟨_, rfl, _, rfl, SNew.nil _ _⟩, hz⟩

set_option maxHeartbeats 1000000 in
set_option maxRecDepth 100000 in
theorem ahead_no (q k : ByteArray) (w : World) (HP : Hid (∀ W, Calls Tryd.prog 57 #[.string q, .string ⟨#[33]⟩] W fun e w' => e = .returned (.tuple #[.string k, .bool true]) ∧ w' = W))
    (HS : Hid (∀ W, Below w.heap.size w W → Err W → Calls Tryd.prog 54 #[.agg #[.string k, .bool true, .slice none 0 0]] W fun e w' => Falls e ∧ Below W.heap.size W w')) (hE : Err w) :
    Calls Tryd.prog 35 #[.string q] w fun e w' => Falls e ∧ Below w.heap.size w w' := by
  have HE : Hid (∀ W, Below w.heap.size w W → Err W) := Lib.hid fun W h => hE.below h
  clear hE
  go_enter Tryd.func35, Tryd.ntmps35
  go_wp2_with fail
  with_reducible refine (HP.out _).mono ?_
  rintro e _ ⟨rfl, rfl⟩
  go_wp2_with fail
  with_reducible refine (HS.out _ (grew w _) (HE.out _ (grew w _))).mono ?_
  rintro e w1 ⟨⟨T, p, rfl⟩, hb1⟩
  have hb := grows (grew w _) hb1
  go_wp2
  exact ⟨rfl, ⟨T, p, rfl⟩, hb⟩
set_option maxHeartbeats 1000000 in
set_option maxRecDepth 100000 in
theorem bare_no (q k j : ByteArray) (w : World) (HP : Hid (∀ W, Calls Tryd.prog 57 #[.string q, .string ⟨#[33]⟩] W fun e w' => e = .returned (.tuple #[.string q, .bool false]) ∧ w' = W))
    (HC : Hid (∀ W, Calls Tryd.prog 58 #[.string q, .string ⟨#[61]⟩] W fun e w' => e = .returned (.tuple #[.string k, .string j, .bool false]) ∧ Below W.heap.size W w'))
    (HS : Hid (∀ W, Below w.heap.size w W → Err W → Calls Tryd.prog 54 #[.agg #[.string k, .bool false, .slice none 0 0]] W fun e w' => Falls e ∧ Below W.heap.size W w')) (hE : Err w) :
    Calls Tryd.prog 35 #[.string q] w fun e w' => Falls e ∧ Below w.heap.size w w' := by
  have HE : Hid (∀ W, Below w.heap.size w W → Err W) := Lib.hid fun W h => hE.below h
  clear hE
  go_enter Tryd.func35, Tryd.ntmps35
  go_wp2_with fail
  with_reducible refine (HP.out _).mono ?_
  rintro e _ ⟨rfl, rfl⟩
  go_wp2_with fail
  with_reducible refine (HC.out _).mono ?_
  rintro e w2 ⟨rfl, hb2⟩
  have hb0 := grows (grew w _) hb2
  go_wp2_with fail
  with_reducible refine (HS.out _ hb0 (HE.out _ hb0)).mono ?_
  rintro e w1 ⟨⟨T, p, rfl⟩, hb1⟩
  have hb := grows hb0 hb1
  go_wp2
  exact ⟨rfl, ⟨T, p, rfl⟩, hb⟩
set_option maxHeartbeats 1000000 in
set_option maxRecDepth 100000 in
theorem full_yes (q l r k : ByteArray) (n : Bool) (vs : List ByteArray) (w : World) (HP : Hid (∀ W, Calls Tryd.prog 57 #[.string q, .string ⟨#[33]⟩] W fun e w' => e = .returned (.tuple #[.string q, .bool false]) ∧ w' = W))
    (HC : Hid (∀ W, Calls Tryd.prog 58 #[.string q, .string ⟨#[61]⟩] W fun e w' => e = .returned (.tuple #[.string l, .string r, .bool true]) ∧ Below W.heap.size W w'))
    (HX : Hid (∀ W, Calls Tryd.prog 59 #[.string l, .string ⟨#[33]⟩] W fun e w' => e = .returned (.tuple #[.string k, .bool n]) ∧ w' = W))
    (HV : Hid (∀ W, Calls Tryd.prog 34 #[.string r, .string ⟨#[124]⟩, .int .i64 4] W fun e w' => (∃ a cap, e = .returned (.slice a vs.length cap) ∧ SNew W.heap.size w' (.slice a vs.length cap) vs) ∧ Below W.heap.size W w'))
    (HS : Hid (∀ a cap W, SRow W (.slice a vs.length cap) vs → Calls Tryd.prog 54 #[.agg #[.string k, .bool n, .slice a vs.length cap]] W fun e w' => e = .returned (.agg #[.string k, .bool n, .slice a vs.length cap]) ∧ Below W.heap.size W w')) :
    Calls Tryd.prog 35 #[.string q] w (Read (k, n, vs) w) := by
  go_enter Tryd.func35, Tryd.ntmps35
  go_wp2_with fail
  with_reducible refine (HP.out _).mono ?_
  rintro e _ ⟨rfl, rfl⟩
  go_wp2_with fail
  with_reducible refine (HC.out _).mono ?_
  rintro e w2 ⟨rfl, hb2⟩
  have hb0 := grows (grew w _) hb2
  go_wp2_with fail
  with_reducible refine (HX.out _).mono ?_
  rintro e w2 ⟨rfl, rfl⟩
  go_wp2_with fail
  with_reducible refine (HV.out _).mono ?_
  rintro e w3 ⟨⟨a, cap, rfl, hv⟩, hb3⟩
  have hb4 := grows hb0 hb3
  have HN := Lib.hid hv
  clear hv
  go_wp2_with fail
  with_reducible refine (HS.out _ _ _ (SNew.row HN.out)).mono ?_
  rintro e w1 ⟨rfl, hb1⟩
  have hb := grows hb4 hb1
  have hlt : w.heap.size < w2.heap.size := lt_of (keep (fresh w _) hb2)
  have hB := keep (fresh w _) (grows (grows hb2 hb3) hb1)
  obtain ⟨d0, d1, d2, f0, f1, f2⟩ := cells3 hB
  obtain ⟨e0, e1, e2, _⟩ := cells3 (set3_box hB (.string k) (.bool n) (.slice a vs.length cap))
  have hz := set3_below (a := .string k) (b := .bool n) (c := (.slice a vs.length cap)) (T := w.heap.size) hb (Nat.le_refl _)
  have hzz := set3_below (a := .string k) (b := .bool n) (c := (.slice a vs.length cap)) (T := w.heap.size) (H := w.heap.size) (Below.refl _ w1) (Nat.le_refl _)
  have HN2 := Lib.hid (((HN.out.below hb1).but (R := w.heap.size) (((((But.refl _ _).set 0 (.string k)).set 1 (.bool n)).set 2 (.slice a vs.length cap))) hlt).mono (Nat.le_of_lt hlt))
  clear hb1 hb2 hb3 hlt
  unfold set3 at e0 e1 e2 hz
  clear hB hzz
  go_wp2
  refine bodyPost_ret (v := .agg #[.string k, .bool n, (.slice a vs.length cap)]) (by simp [results, Tryd.results35, go_sem, e0, e1, e2]) rfl ?_
  exact ⟨⟨_, rfl, _, rfl, HN2.out⟩, hz⟩

set_option maxHeartbeats 1000000 in
set_option maxRecDepth 100000 in
theorem full_no (q l r k : ByteArray) (n : Bool) (vs : List ByteArray) (w : World) (HP : Hid (∀ W, Calls Tryd.prog 57 #[.string q, .string ⟨#[33]⟩] W fun e w' => e = .returned (.tuple #[.string q, .bool false]) ∧ w' = W))
    (HC : Hid (∀ W, Calls Tryd.prog 58 #[.string q, .string ⟨#[61]⟩] W fun e w' => e = .returned (.tuple #[.string l, .string r, .bool true]) ∧ Below W.heap.size W w'))
    (HX : Hid (∀ W, Calls Tryd.prog 59 #[.string l, .string ⟨#[33]⟩] W fun e w' => e = .returned (.tuple #[.string k, .bool n]) ∧ w' = W))
    (HV : Hid (∀ W, Calls Tryd.prog 34 #[.string r, .string ⟨#[124]⟩, .int .i64 4] W fun e w' => (∃ a cap, e = .returned (.slice a vs.length cap) ∧ SNew W.heap.size w' (.slice a vs.length cap) vs) ∧ Below W.heap.size W w'))
    (HS : Hid (∀ a cap W, SRow W (.slice a vs.length cap) vs → Err W → Calls Tryd.prog 54 #[.agg #[.string k, .bool n, .slice a vs.length cap]] W fun e w' => Falls e ∧ Below W.heap.size W w')) (hE : Err w) :
    Calls Tryd.prog 35 #[.string q] w fun e w' => Falls e ∧ Below w.heap.size w w' := by
  have HE : Hid (∀ W, Below w.heap.size w W → Err W) := Lib.hid fun W h => hE.below h
  clear hE
  go_enter Tryd.func35, Tryd.ntmps35
  go_wp2_with fail
  with_reducible refine (HP.out _).mono ?_
  rintro e _ ⟨rfl, rfl⟩
  go_wp2_with fail
  with_reducible refine (HC.out _).mono ?_
  rintro e w2 ⟨rfl, hb2⟩
  have hb0 := grows (grew w _) hb2
  go_wp2_with fail
  with_reducible refine (HX.out _).mono ?_
  rintro e w2 ⟨rfl, rfl⟩
  go_wp2_with fail
  with_reducible refine (HV.out _).mono ?_
  rintro e w3 ⟨⟨a, cap, rfl, hv⟩, hb3⟩
  have hb4 := grows hb0 hb3
  have HN := Lib.hid hv
  clear hv
  go_wp2_with fail
  with_reducible refine (HS.out _ _ _ (SNew.row HN.out) (HE.out _ hb4)).mono ?_
  rintro e w1 ⟨⟨T, p, rfl⟩, hb1⟩
  have hb := grows hb4 hb1
  go_wp2
  exact ⟨rfl, ⟨T, p, rfl⟩, hb⟩
set_option maxHeartbeats 1000000 in
set_option maxRecDepth 100000 in
theorem full_many (q l r k : ByteArray) (n : Bool) (w : World) (HP : Hid (∀ W, Calls Tryd.prog 57 #[.string q, .string ⟨#[33]⟩] W fun e w' => e = .returned (.tuple #[.string q, .bool false]) ∧ w' = W))
    (HC : Hid (∀ W, Calls Tryd.prog 58 #[.string q, .string ⟨#[61]⟩] W fun e w' => e = .returned (.tuple #[.string l, .string r, .bool true]) ∧ Below W.heap.size W w'))
    (HX : Hid (∀ W, Calls Tryd.prog 59 #[.string l, .string ⟨#[33]⟩] W fun e w' => e = .returned (.tuple #[.string k, .bool n]) ∧ w' = W))
    (HV : Hid (∀ W, Err W → Calls Tryd.prog 34 #[.string r, .string ⟨#[124]⟩, .int .i64 4] W fun e w' => Falls e ∧ Below W.heap.size W w')) (hE : Err w) :
    Calls Tryd.prog 35 #[.string q] w fun e w' => Falls e ∧ Below w.heap.size w w' := by
  have HE : Hid (∀ W, Below w.heap.size w W → Err W) := Lib.hid fun W h => hE.below h
  clear hE
  go_enter Tryd.func35, Tryd.ntmps35
  go_wp2_with fail
  with_reducible refine (HP.out _).mono ?_
  rintro e _ ⟨rfl, rfl⟩
  go_wp2_with fail
  with_reducible refine (HC.out _).mono ?_
  rintro e w2 ⟨rfl, hb2⟩
  have hb0 := grows (grew w _) hb2
  go_wp2_with fail
  with_reducible refine (HX.out _).mono ?_
  rintro e w2 ⟨rfl, rfl⟩
  go_wp2_with fail
  with_reducible refine (HV.out _ (HE.out _ hb0)).mono ?_
  rintro e w3 ⟨⟨T, p, rfl⟩, hb3⟩
  have hb4 := grows hb0 hb3
  go_wp2
  exact ⟨rfl, ⟨T, p, rfl⟩, hb4⟩
end Go.Proofs.YtcgknkbigbbfdaaDoor.Sel
