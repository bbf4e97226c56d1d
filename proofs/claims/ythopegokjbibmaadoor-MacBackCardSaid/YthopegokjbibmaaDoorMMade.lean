/- What the statements' own narrowed answers, for every key, tenant and caveats; of memory that was there nothing turns. -/
import Derived.Test.YthopegokjbibmaaDoorMNarrow
namespace Go.Proofs.YthopegokjbibmaaDoor.Mac
open Go.RowKit Go.Proofs.YthopegokjbibmaaDoor.Sha
open Go.Proofs.YthopegokjbibmaaDoor.Boxes (set3 set3_box set3_below cells3 keep)

/-- A caveat of a kind that may be, by its number. -/
def kind (c : Cav) : Cav := (1 + ((c.2 % 2 : Nat) : Int), c.2)
def madeTo (ls : List Cav) (k : Nat) : List Cav := (ls.take k).map kind
def madeL (ls : List Cav) : List Cav := madeTo ls (min ls.length 8)
theorem madeTo_next {ls : List Cav} {k : Nat} {x : Cav} (h : ls[k]? = some x) : madeTo ls (k + 1) = madeTo ls k ++ [kind x] := by
  unfold madeTo
  rw [List.take_add_one, h, List.map_append]
  rfl
theorem madeTo_len (ls : List Cav) (k : Nat) (h : k ≤ ls.length) : (madeTo ls k).length = k := by unfold madeTo; rw [List.length_map, List.length_take]; omega
theorem madeL_len (ls : List Cav) : (madeL ls).length = min ls.length 8 := madeTo_len _ _ (by omega)
theorem kind_fair {c : Cav} (h : Fair c) : Fair (kind c) := by
  have := h.2.2
  unfold Fair kind
  simp only
  omega
theorem kind_plain (c : Cav) : strange (kind c) = false := by
  unfold strange kind
  rcases Nat.mod_two_eq_zero_or_one c.2 with h | h <;> simp [h]
theorem made_may (ls : List Cav) : mayL (madeL ls) = true := by
  unfold mayL
  rw [madeL_len, decide_eq_true (by omega), Bool.true_and, Bool.not_eq_true', List.any_eq_false]
  intro c hc
  obtain ⟨x, _, rfl⟩ := List.mem_map.1 hc
  rw [kind_plain]
  simp
theorem made_fair {ls : List Cav} (h : ∀ c ∈ ls, Fair c) : ∀ c ∈ madeL ls, Fair c := fun c hc => by
  obtain ⟨x, hx, rfl⟩ := List.mem_map.1 hc
  exact kind_fair (h x (List.mem_of_mem_take hx))

theorem conv_rem (m : Nat) (hm : m ≤ 1) (w : World) : (convert 25 3 (.int .u64 (m : Int))).run Tryd.prog w = .ok (.int .i64 (m : Int)) w := by
  obtain rfl | rfl : m = 0 ∨ m = 1 := by omega
  all_goals kernel_rfl
/-- What narrowed has laid: two blocks, of which the second is the token. -/
def Nd (w : World) (R T : Nat) (ten : ByteArray) (v : Value) (X : ByteArray) (ls : List Cav) (wr : World) : Prop :=
  Below w.heap.size w wr ∧ wr.heap[R]? = some (.cells #[.string ⟨#[]⟩, .slice none 0 0, .string ⟨#[]⟩] 24) ∧
    wr.heap[T]? = some (.cells #[.string ten, v, .string X] 24) ∧ Mine wr (T + 1) v ls
theorem Nd.more {w wr w' : World} {R T : Nat} {ten X : ByteArray} {v : Value} {ls : List Cav} (h : Nd w R T ten v X ls wr) (hb : Below wr.heap.size wr w') : Nd w R T ten v X ls w' :=
  ⟨h.1.trans (hb.mono h.1.size), keep h.2.1 hb, keep h.2.2.1 hb, h.2.2.2.more hb⟩

set_option maxHeartbeats 2000000 in
set_option maxRecDepth 100000 in
theorem narrowed_any (key ten : ByteArray) (hk : key.size ≤ 1125899906842624) (ht : ten.size ≤ 1125899906842624) (v : Value) (ls : List Cav) (w : World) (hR : Roots w) (hv : Row w v ls) :
    Calls Tryd.prog 26 #[.string key, .string ten, v] w fun e w' => (∃ v', e = .returned (.agg #[.string ten, v', .string (str (chainL (signL key.data.toList ten.data.toList) (madeL ls)))]) ∧ Mine w' w.heap.size v' (madeL ls)) ∧ Below w.heap.size w w' := by
  obtain ⟨a, cap, rfl, hcap, hm⟩ := hv.slice
  have hlen := hv.len
  have hb0 : Below w.heap.size w (w.alloc (.cells #[.string ⟨#[]⟩, .slice none 0 0, .string ⟨#[]⟩] 24)) := (Below.refl _ _).alloc (Nat.le_refl _) _
  have hh0 := heap_alloc_new w (.cells #[.string ⟨#[]⟩, .slice none 0 0, .string ⟨#[]⟩] 24)
  have HV := Lib.hid hv
  have HR := Lib.hid hR
  obtain ⟨S0, hS0⟩ : ∃ S, str (signL key.data.toList ten.data.toList) = S := ⟨_, rfl⟩
  have HNew : Hid (∀ w', Roots w' → Calls Tryd.prog 12 #[.string key, .string ten] w' fun e w'' => e = .returned (.agg #[.string ten, .slice none 0 0, .string S0]) ∧ Below w'.heap.size w' w'') := Lib.hid fun w' h => by rw [← hS0]; exact new_any key ten hk ht w' h
  have HS0 : Hid (S0.data.toList = signL key.data.toList ten.data.toList) := Lib.hid (by rw [← hS0, str_toList])
  have HSz : Hid (S0.data.toList.length = 32) := Lib.hid (by rw [HS0.out, signL_len])
  rw [← HS0.out]
  clear hR hv hS0
  go_enter Tryd.func26, Tryd.ntmps26
  go_wp2_with fail
  with_reducible refine (HNew.out _ (HR.out.below hb0)).mono ?_
  rintro e w1 ⟨rfl, b1⟩
  have hb1 := hb0.trans (b1.mono hb0.size)
  have hlt : w.heap.size < w1.heap.size := (Array.getElem?_eq_some_iff.1 (keep hh0 b1)).1
  have hN1 : Nd w w.heap.size w1.heap.size ten (.slice none 0 0) S0 [] (w1.alloc (.cells #[.string ten, .slice none 0 0, .string S0] 24)) :=
    ⟨hb1.alloc hb1.size _, keep (keep hh0 b1) ((Below.refl _ _).alloc (Nat.le_refl _) _), heap_alloc_new _ _, World.ownsRow_nil _ _ _ _⟩
  have HN1 := Lib.hid hN1
  clear hN1 hb0 hh0 b1 hb1 HNew
  go_wp2
  obtain ⟨T, hT⟩ : ∃ T, T = w1.heap.size := ⟨_, rfl⟩
  rw [← hT] at hlt HN1 ⊢
  clear hT
  go_loopw [8] (fun i wr => ∃ (k : Nat) (u : Value) (X : ByteArray), k ≤ ls.length ∧ k ≤ 8 ∧ i = .int .i64 k ∧ X = str (chainL S0.data.toList (madeTo ls k)) ∧ Nd w w.heap.size T ten u X (madeTo ls k) wr) (fun i _ => 8 - (intOf i).toNat)
  case atStart => exact ⟨0, .slice none 0 0, S0, Nat.zero_le _, Nat.zero_le _, rfl, (str_of S0).symm, HN1.out⟩
  case round =>
    obtain ⟨k, u, X, hk1, hk8, rfl, hX, hN⟩ := hrel
    clear HN1
    by_cases hgo : k < ls.length ∧ k < 8
    · obtain ⟨hlt1, hlt8⟩ := hgo
      have hz1 : (k : Int) < (ls.length : Int) := by omega
      have hz8 : (k : Int) < 8 := by omega
      obtain ⟨g, o, rfl, hg, hcell⟩ := HV.out.cells hlt1
      obtain ⟨x, hx⟩ : ∃ x, ls[k]? = some x := ⟨_, List.getElem?_eq_getElem hlt1⟩
      obtain ⟨hfx, hc1, hc2⟩ := hcell.below hg hN.1 k x hx
      have HM := Lib.hid (madeTo_next hx)
      have HFx := Lib.hid (kind_fair hfx)
      obtain ⟨x1, n⟩ := x
      obtain ⟨m, hmm⟩ : ∃ m, n % 2 = m := ⟨_, rfl⟩
      have hm1 : m ≤ 1 := by omega
      have hmz : (n : Int) % 2 = (m : Int) := by omega
      have hnz : (n : Int) ≤ 18446744073709551615 := by have := hfx.2.2; simp only at this; omega
      have hcv := conv_rem m hm1
      have hkx : kind (x1, n) = (1 + (m : Int), n) := by unfold kind; simp only [hmm]
      rw [hkx] at HM HFx
      clear hx hcell hfx hmm hkx
      have hXz : X.size ≤ 1125899906842624 := by rw [hX, str_size]; exact chainL_le (by omega) _ (by rw [HSz.out]; omega)
      have HXn : Hid (str (chainL S0.data.toList (madeTo ls (k + 1))) = str (signL X.data.toList (putC (1 + (m : Int), n)))) := Lib.hid (by rw [HM.out, chainL_snoc, hX, str_toList])
      have hbW : Below wr.heap.size wr (wr.alloc (.cells #[.int .i64 (1 + (m : Int)), .int .u64 (n : Int)] 27)) := (Below.refl _ _).alloc (Nat.le_refl _) _
      have hN2 := hN.more hbW
      have hcb : (wr.alloc (.cells #[.int .i64 (1 + (m : Int)), .int .u64 (n : Int)] 27)).heap[wr.heap.size]? = some (.cells #[.int .i64 (1 + (m : Int)), .int .u64 (n : Int)] 27) := heap_alloc_new _ _
      obtain ⟨a2, cap2, hu, _⟩ := hN.2.2.2.slice
      have hml : (madeTo ls k).length ≤ 8 := by rw [madeTo_len _ _ hk1]; exact hk8
      have hrow : Row (wr.alloc (.cells #[.int .i64 (1 + (m : Int)), .int .u64 (n : Int)] 27)) u (madeTo ls k) := hN2.2.2.2.row (fun c hc => by
        obtain ⟨y, hy, rfl⟩ := List.mem_map.1 hc
        exact kind_fair (HV.out.fair y (List.mem_of_mem_take hy)))
      have HNar := Lib.hid (narrow_any ten X u (madeTo ls k) (1 + (m : Int), n) HFx.out hXz _ (HR.out.below hN2.1) hrow (by omega))
      obtain ⟨Y, hY⟩ : ∃ Y, str (signL X.data.toList (putC (1 + (m : Int), n))) = Y := ⟨_, rfl⟩
      rw [hY] at HNar HXn
      obtain ⟨n2, hn2⟩ : ∃ n, (madeTo ls k).length = n := ⟨_, rfl⟩
      rw [hn2] at hu
      subst hu
      unfold val at HNar
      obtain ⟨d0, d1, _⟩ := cells2 hcb
      obtain ⟨t0, t1, t2, _⟩ := cells3 hN2.2.2.1
      have hTlt := (Array.getElem?_eq_some_iff.1 hN2.2.2.1).1
      have HND := Lib.hid hN2
      clear hX hY hN hN2 hrow hcb hn2 hml
      go_wp2_with fail
      with_reducible refine HNar.out.mono ?_
      rintro e w5 ⟨⟨v', rfl, hown⟩, hb5⟩
      rw [← HM.out] at hown
      have hN5 := HND.out.more hb5
      obtain ⟨a3, cap3, hv3, _⟩ := hown.slice
      obtain ⟨n3, hn3⟩ : ∃ n, (madeTo ls (k + 1)).length = n := ⟨_, rfl⟩
      rw [hn3] at hv3
      subst hv3
      obtain ⟨q0, q1, q2, f0, f1, f2⟩ := cells3 hN5.2.2.1
      have hT5 : Nd w w.heap.size T ten (.slice a3 n3 cap3) Y (madeTo ls (k + 1)) (set3 T (.string ten) (.slice a3 n3 cap3) (.string Y) w5) := by
        refine ⟨set3_below hN5.1 (by omega), ?_, set3_box hN5.2.2.1 _ _ _, ?_⟩
        · unfold set3
          exact set_else (set_else (set_else hN5.2.1 (by omega)) (by omega)) (by omega)
        · unfold set3
          exact (((hown.base (B' := T + 1) (by omega)).set (by omega)).set (by omega)).set (by omega)
      unfold set3 at hT5
      have HT5 := Lib.hid hT5
      clear hT5 hown hn3 hb5 hN5 HND d0 d1 t0 t1 t2 hTlt HNar
      go_wp2
      go_roundw
      case rel => exact ⟨k + 1, .slice a3 n3 cap3, Y, by omega, by omega, by go_num, HXn.out.symm, HT5.out⟩
      case measure => simp [intOf]; omega
    · have hend : k = min ls.length 8 := by omega
      have hmk : madeTo ls k = madeL ls := by unfold madeL; rw [hend]
      rw [hmk] at hX hN
      have HX : Hid (str (chainL S0.data.toList (madeL ls)) = X) := Lib.hid hX.symm
      obtain ⟨a2, cap2, hu, _⟩ := hN.2.2.2.slice
      obtain ⟨n2, hn2⟩ : ∃ n, (madeL ls).length = n := ⟨_, rfl⟩
      rw [hn2] at hu
      subst hu
      obtain ⟨t0, t1, t2, _⟩ := cells3 hN.2.2.1
      obtain ⟨q0, q1, q2, f0, f1, f2⟩ := cells3 hN.2.1
      have hres := set3_box hN.2.1 (.string ten) (.slice a2 n2 cap2) (.string X)
      have hbl := set3_below (T := w.heap.size) (a := .string ten) (b := .slice a2 n2 cap2) (c := .string X) hN.1 (Nat.le_refl _)
      have hmine := ((hN.2.2.2.set (T := w.heap.size) (i := 0) (u := .string ten) (by omega)).set (T := w.heap.size) (i := 1) (u := .slice a2 n2 cap2) (by omega)).set (T := w.heap.size) (i := 2) (u := .string X) (by omega)
      have HO := Lib.hid (hmine.base (B' := w.heap.size) (by omega))
      unfold set3 at hres hbl
      obtain ⟨e0, e1, e2, _⟩ := cells3 hres
      clear hX hN hres hmine hn2 hmk hend
      by_cases h1 : k < ls.length
      · have h8 : ¬ (k : Int) < 8 := by omega
        have hz1 : (k : Int) < (ls.length : Int) := by omega
        go_wp2
        refine bodyPost_ret (v := .agg #[.string ten, .slice a2 n2 cap2, .string X]) (by simp [results, Tryd.results26, go_sem, e0, e1, e2]) rfl ⟨⟨_, by rw [HX.out], HO.out⟩, hbl⟩
      · have hz1 : ¬ (k : Int) < (ls.length : Int) := by omega
        go_wp2
        refine bodyPost_ret (v := .agg #[.string ten, .slice a2 n2 cap2, .string X]) (by simp [results, Tryd.results26, go_sem, e0, e1, e2]) rfl ⟨⟨_, by rw [HX.out], HO.out⟩, hbl⟩
end Go.Proofs.YthopegokjbibmaaDoor.Mac
