/- Proved: demesnelaw02.WordUnder answers true for every two slices of slices of bytes and every two bytes, and leaves them as they were. Its row lists two tables of Go's library (utf8.first, utf8.acceptRanges) as they are laid; the call reads neither. -/
import Derived.Test.YtmcpeejmmhaohaaDoorWMaker
import Derived.Test.YtmcpeejmmhaohaaDoorWOrder
import Derived.Test.YtmcpeejmmhaohaaDoorEnd
import Derived.Test.YtmcpeejmmhaohaaDoorTie
import Derived.Test.YtmcpeejmmhaohaaDoorCards
import Derived.LaidMore
import Derived.Lay
import Derived.SevenTiedAt
import Derived.Stop.Joined
namespace Go.Proofs.YtmcpeejmmhaohaaDoor.wordUnder
open Go.RowKit Go.Proofs.YtmcpeejmmhaohaaDoor.Word Go.Proofs.YtmcpeejmmhaohaaDoor.Args

theorem glue_take_len {ns : List (List UInt8)} (h : ∀ a ∈ ns, right a = true) (h3 : ns.length ≤ 3) (k : Nat) : (str (glue (ns.take k))).size ≤ 99 := by
  rw [str_size]
  have h1 := glue_len (ns.take k) (fun a ha => (right_free (h a (List.mem_of_mem_take ha))).2)
  have h2 := List.length_take_le' k ns
  omega

/-- Row i of an argument, if it has one. -/
theorem row_at {w : World} {o : Option Addr} {cap : Nat} {bss : List (List UInt8)} (h : ByteRows w (.slice o bss.length cap) bss) {k : Nat} (hk : k < bss.length) :
    ∃ b off u, o = some ⟨b, off, none⟩ ∧ b < w.heap.size ∧ w.cell? ⟨b, off + k, none⟩ = some u ∧ Bytes w u bss[k] := by
  obtain ⟨o', cap', ho, _, hc⟩ := h
  obtain ⟨b, off, rfl, hbl, hc⟩ := hc (by intro h; rw [h] at hk; simp at hk)
  obtain ⟨u, hu, hbu⟩ := hc k hk
  injection ho with h1 _ h2
  exact ⟨b, off, u, h1, hbl, hu, hbu⟩

/-- What is glued on, as the text glues it. -/
theorem glue_str {X : List (List UInt8)} {k : Nat} (hk : k < X.length) (q : ByteArray) (hq : q = str (glue (X.take k))) :
    (k = 0 → str (glue (X.take (k + 1))) = q ++ str X[k]) ∧ (0 < k → str (glue (X.take (k + 1))) = q ++ ⟨#[47]⟩ ++ str X[k]) := by
  constructor
  · intro h
    rw [take_glue hk, if_pos h, hq, str_append]
    subst h
    rfl
  · intro h
    rw [take_glue hk, if_neg (by omega), hq, show (⟨#[47]⟩ : ByteArray) = str [47] from rfl, str_append, str_append]
    simp

set_option maxRecDepth 100000 in
set_option maxHeartbeats 16000000 in
theorem walk_any (o o' : Option Addr) (cap cap' : Nat) (bss css X Y : List (List UInt8)) (_hm : bss.length ≤ 9223372036854775807) (_hm' : css.length ≤ 9223372036854775807) (x y : Nat) (hx : x ≤ 255) (hy : y ≤ 255) (a b : Nat) (ha : x % 3 = a) (hb : y % 3 = b)
    (hX : X.length = 3) (hY : Y.length = 3) (HX : Hid (Path X)) (HY : Hid (Path Y))
    (HXE : Hid (∀ k (h : k < X.length), (∀ h' : k < bss.length, X[k] = made bss[k]) ∧ (¬ k < bss.length → X[k] = [113])))
    (HYE : Hid (∀ k (h : k < X.length) (h2 : k < Y.length), (∀ h' : k < css.length, Y[k] = made css[k]) ∧ (¬ k < css.length → Y[k] = X[k])))
    (w : World) (HV : Hid (ByteRows w (.slice o bss.length cap) bss)) (HV' : Hid (ByteRows w (.slice o' css.length cap') css)) :
    Calls Tryd.prog 7 #[.slice o bss.length cap, .slice o' css.length cap', .int .u8 x, .int .u8 y] w fun e w' => e = .returned (.bool true) ∧ Below w.heap.size w w' := by
  have ha3 : (x : Int) % 3 = (a : Int) := by omega
  have hb3 : (y : Int) % 3 = (b : Int) := by omega
  have ha2 : a ≤ 2 := by omega
  have hb2 : b ≤ 2 := by omega
  clear ha hb
  have HXL := Lib.hid hX
  have HYL := Lib.hid hY
  clear hX hY
  go_enter Tryd.func7, Tryd.ntmps7
  go_wp2_with fail
  refine (examples_any _).mono ?_
  rintro e w1 ⟨rfl, hb1⟩
  have HV1 := Lib.hid (HV.out.below hb1)
  have HV1' := Lib.hid (HV'.out.below hb1)
  clear HV HV'
  go_wp2_with fail
  go_loopw [10, 11, 12, 13] (fun p q z i wr => ∃ (k : Nat) (zz : ByteArray), k ≤ 3 ∧ p = .string (str (glue (X.take k))) ∧ q = .string (str (glue (Y.take k))) ∧ z = .string zz ∧ (a < k → zz = str (glue (Y.take (a + 1)))) ∧ i = .int .i64 k ∧ Below w1.heap.size w1 wr) (fun _ _ _ i _ => 3 - (intOf i).toNat)
  case atStart => exact ⟨0, ⟨#[]⟩, Nat.zero_le _, rfl, rfl, rfl, fun h => by omega, rfl, Below.refl _ _⟩
  case round =>
    obtain ⟨k, zz, hk, rfl, rfl, rfl, hzz, rfl, hbr⟩ := hrel
    have HZ := Lib.hid hzz
    clear hzz
    by_cases hlt : k < 3
    · have hkX : k < X.length := by rw [HXL.out]; exact hlt
      have hkY : k < Y.length := by rw [HYL.out]; exact hlt
      have hXE := HXE.out k hkX
      have hYE := HYE.out k hkX hkY
      have hps : (str X[k]).size ≤ 32 := by rw [str_size]; exact (right_free (HX.out.right _ (List.getElem_mem hkX))).2
      have hrs : (str Y[k]).size ≤ 32 := by rw [str_size]; exact (right_free (HY.out.right _ (List.getElem_mem hkY))).2
      have hqs := glue_take_len HX.out.right HX.out.le k
      have hqs' := glue_take_len HY.out.right HY.out.le k
      obtain ⟨q, hq⟩ : ∃ q, q = str (glue (X.take k)) := ⟨_, rfl⟩
      obtain ⟨q', hq'⟩ : ∃ q', q' = str (glue (Y.take k)) := ⟨_, rfl⟩
      have GX := glue_str hkX q hq
      have GY := glue_str hkY q' hq'
      rw [← hq] at hqs ⊢
      rw [← hq'] at hqs' ⊢
      obtain ⟨p, hp⟩ : ∃ p, p = X[k] := ⟨_, rfl⟩
      obtain ⟨r, hr⟩ : ∃ r, r = Y[k] := ⟨_, rfl⟩
      rw [← hp] at hXE hps GX hYE
      rw [← hr] at hYE hrs GY
      clear hq hq' hp hr
      -- the sum's texts, by whether this is the first round
      have hsum : (k = 0 ∧ Hid (str (glue (X.take (k + 1))) = q ++ str p ∧ str (glue (Y.take (k + 1))) = q' ++ str r)) ∨ (0 < k ∧ Hid (str (glue (X.take (k + 1))) = q ++ ⟨#[47]⟩ ++ str p ∧ str (glue (Y.take (k + 1))) = q' ++ ⟨#[47]⟩ ++ str r)) := by
        rcases Nat.eq_zero_or_pos k with h | h
        · exact .inl ⟨h, Lib.hid ⟨GX.1 h, GY.1 h⟩⟩
        · exact .inr ⟨h, Lib.hid ⟨GX.2 h, GY.2 h⟩⟩
      clear GX GY
      have hka : (k = a) ∨ (k ≠ a ∧ ((k : Int) == (a : Int)) = false ∧ (k == a) = false) := by
        by_cases h : k = a
        · exact .inl h
        · exact .inr ⟨h, by rw [beq_eq_false_iff_ne]; omega, by rw [beq_eq_false_iff_ne]; omega⟩
      by_cases hlb : k < bss.length
      · obtain ⟨b1, off1, u1, rfl, hbl1, hu1, hbu1⟩ := row_at HV1.out hlb
        have c1 : wr.cell? ⟨b1, off1 + k, none⟩ = some u1 := by rw [hbr.cell hbl1]; exact hu1
        have HB1 := Lib.hid (hbu1.below hbr)
        have HM1 := Lib.hid (fun w => made_any u1 bss[k] w)
        rw [← hXE.1 hlb] at HM1
        clear hu1 hbu1 hXE
        by_cases hlc : k < css.length
        · obtain ⟨b2, off2, u2, rfl, hbl2, hu2, hbu2⟩ := row_at HV1'.out hlc
          have c2 : wr.cell? ⟨b2, off2 + k, none⟩ = some u2 := by rw [hbr.cell hbl2]; exact hu2
          have HB2 := Lib.hid (hbu2.below hbr)
          have HM2 := Lib.hid (fun w => made_any u2 css[k] w)
          rw [← hYE.1 hlc] at HM2
          clear hu2 hbu2 hYE
          go_wp2_with fail
          (with_reducible refine (HM1.out _ HB1.out).mono ?_)
          rintro e w3 ⟨rfl, hb3⟩
          have c2' := (hb3.cell (World.block_lt_of_cell? _ _ c2)).trans c2
          have HB2' := Lib.hid (HB2.out.below hb3)
          replace hbr := hbr.trans (hb3.mono hbr.size)
          clear c1 c2 hb3 HB1 HB2
          go_wp2_with fail
          (with_reducible refine (HM2.out _ HB2'.out).mono ?_)
          rintro e w4 ⟨rfl, hb4⟩
          replace hbr := hbr.trans (hb4.mono hbr.size)
          clear c2' hb4
          rcases hsum with ⟨hk0, HS⟩ | ⟨hk0, HS⟩ <;> rcases hka with hka | ⟨hka, hka1, hka2⟩
          · have d1 : decide ((0 : Int) < (k : Int)) = false := decide_eq_false (by omega)
            have d2 : ¬ 0 < k := by omega
            have d3 : ((k : Int) == (a : Int)) = true := by rw [beq_iff_eq]; omega
            have d4 : (k == a) = true := by rw [beq_iff_eq]; exact hka
            have HK := Lib.hid hka
            clear hka hk0
            go_wp2
            go_roundw
            case rel => exact ⟨k + 1, _, by omega, by rw [HS.out.1], by rw [HS.out.2], rfl, fun _ => by rw [← HK.out, HS.out.2], by go_num, hbr⟩
            case measure => simp [intOf]; omega
          · have d1 : decide ((0 : Int) < (k : Int)) = false := decide_eq_false (by omega)
            have d2 : ¬ 0 < k := by omega
            have HK := Lib.hid hka
            clear hka hk0
            go_wp2
            go_roundw
            case rel => exact ⟨k + 1, zz, by omega, by rw [HS.out.1], by rw [HS.out.2], rfl, fun h => HZ.out (by have := HK.out; omega), by go_num, hbr⟩
            case measure => simp [intOf]; omega
          · have d3 : ((k : Int) == (a : Int)) = true := by rw [beq_iff_eq]; omega
            have d4 : (k == a) = true := by rw [beq_iff_eq]; exact hka
            have HK := Lib.hid hka
            clear hka
            go_wp2
            go_roundw
            case rel => exact ⟨k + 1, _, by omega, by rw [HS.out.1], by rw [HS.out.2], rfl, fun _ => by rw [← HK.out, HS.out.2], by go_num, hbr⟩
            case measure => simp [intOf]; omega
          · have HK := Lib.hid hka
            clear hka
            go_wp2
            go_roundw
            case rel => exact ⟨k + 1, zz, by omega, by rw [HS.out.1], by rw [HS.out.2], rfl, fun h => HZ.out (by have := HK.out; omega), by go_num, hbr⟩
            case measure => simp [intOf]; omega
        · obtain rfl : r = p := hYE.2 hlc
          clear hYE
          go_wp2_with fail
          (with_reducible refine (HM1.out _ HB1.out).mono ?_)
          rintro e w3 ⟨rfl, hb3⟩
          replace hbr := hbr.trans (hb3.mono hbr.size)
          clear c1 hb3 HB1
          rcases hsum with ⟨hk0, HS⟩ | ⟨hk0, HS⟩ <;> rcases hka with hka | ⟨hka, hka1, hka2⟩
          · have d1 : decide ((0 : Int) < (k : Int)) = false := decide_eq_false (by omega)
            have d2 : ¬ 0 < k := by omega
            have d3 : ((k : Int) == (a : Int)) = true := by rw [beq_iff_eq]; omega
            have d4 : (k == a) = true := by rw [beq_iff_eq]; exact hka
            have HK := Lib.hid hka
            clear hka hk0
            go_wp2
            go_roundw
            case rel => exact ⟨k + 1, _, by omega, by rw [HS.out.1], by rw [HS.out.2], rfl, fun _ => by rw [← HK.out, HS.out.2], by go_num, hbr⟩
            case measure => simp [intOf]; omega
          · have d1 : decide ((0 : Int) < (k : Int)) = false := decide_eq_false (by omega)
            have d2 : ¬ 0 < k := by omega
            have HK := Lib.hid hka
            clear hka hk0
            go_wp2
            go_roundw
            case rel => exact ⟨k + 1, zz, by omega, by rw [HS.out.1], by rw [HS.out.2], rfl, fun h => HZ.out (by have := HK.out; omega), by go_num, hbr⟩
            case measure => simp [intOf]; omega
          · have d3 : ((k : Int) == (a : Int)) = true := by rw [beq_iff_eq]; omega
            have d4 : (k == a) = true := by rw [beq_iff_eq]; exact hka
            have HK := Lib.hid hka
            clear hka
            go_wp2
            go_roundw
            case rel => exact ⟨k + 1, _, by omega, by rw [HS.out.1], by rw [HS.out.2], rfl, fun _ => by rw [← HK.out, HS.out.2], by go_num, hbr⟩
            case measure => simp [intOf]; omega
          · have HK := Lib.hid hka
            clear hka
            go_wp2
            go_roundw
            case rel => exact ⟨k + 1, zz, by omega, by rw [HS.out.1], by rw [HS.out.2], rfl, fun h => HZ.out (by have := HK.out; omega), by go_num, hbr⟩
            case measure => simp [intOf]; omega
      · obtain rfl : p = [113] := hXE.2 hlb
        clear hXE
        have e113 : str [113] = ⟨#[113]⟩ := rfl
        rw [e113] at hps hsum
        clear e113
        by_cases hlc : k < css.length
        · obtain ⟨b2, off2, u2, rfl, hbl2, hu2, hbu2⟩ := row_at HV1'.out hlc
          have c2 : wr.cell? ⟨b2, off2 + k, none⟩ = some u2 := by rw [hbr.cell hbl2]; exact hu2
          have HB2 := Lib.hid (hbu2.below hbr)
          have HM2 := Lib.hid (fun w => made_any u2 css[k] w)
          rw [← hYE.1 hlc] at HM2
          clear hu2 hbu2 hYE
          go_wp2_with fail
          (with_reducible refine (HM2.out _ HB2.out).mono ?_)
          rintro e w4 ⟨rfl, hb4⟩
          replace hbr := hbr.trans (hb4.mono hbr.size)
          clear c2 hb4
          rcases hsum with ⟨hk0, HS⟩ | ⟨hk0, HS⟩ <;> rcases hka with hka | ⟨hka, hka1, hka2⟩
          · have d1 : decide ((0 : Int) < (k : Int)) = false := decide_eq_false (by omega)
            have d2 : ¬ 0 < k := by omega
            have d3 : ((k : Int) == (a : Int)) = true := by rw [beq_iff_eq]; omega
            have d4 : (k == a) = true := by rw [beq_iff_eq]; exact hka
            have HK := Lib.hid hka
            clear hka hk0
            go_wp2
            go_roundw
            case rel => exact ⟨k + 1, _, by omega, by rw [HS.out.1], by rw [HS.out.2], rfl, fun _ => by rw [← HK.out, HS.out.2], by go_num, hbr⟩
            case measure => simp [intOf]; omega
          · have d1 : decide ((0 : Int) < (k : Int)) = false := decide_eq_false (by omega)
            have d2 : ¬ 0 < k := by omega
            have HK := Lib.hid hka
            clear hka hk0
            go_wp2
            go_roundw
            case rel => exact ⟨k + 1, zz, by omega, by rw [HS.out.1], by rw [HS.out.2], rfl, fun h => HZ.out (by have := HK.out; omega), by go_num, hbr⟩
            case measure => simp [intOf]; omega
          · have d3 : ((k : Int) == (a : Int)) = true := by rw [beq_iff_eq]; omega
            have d4 : (k == a) = true := by rw [beq_iff_eq]; exact hka
            have HK := Lib.hid hka
            clear hka
            go_wp2
            go_roundw
            case rel => exact ⟨k + 1, _, by omega, by rw [HS.out.1], by rw [HS.out.2], rfl, fun _ => by rw [← HK.out, HS.out.2], by go_num, hbr⟩
            case measure => simp [intOf]; omega
          · have HK := Lib.hid hka
            clear hka
            go_wp2
            go_roundw
            case rel => exact ⟨k + 1, zz, by omega, by rw [HS.out.1], by rw [HS.out.2], rfl, fun h => HZ.out (by have := HK.out; omega), by go_num, hbr⟩
            case measure => simp [intOf]; omega
        · obtain rfl : r = [113] := hYE.2 hlc
          clear hYE
          rw [show str [113] = ⟨#[113]⟩ from rfl] at hrs hsum
          rcases hsum with ⟨hk0, HS⟩ | ⟨hk0, HS⟩ <;> rcases hka with hka | ⟨hka, hka1, hka2⟩
          · have d1 : decide ((0 : Int) < (k : Int)) = false := decide_eq_false (by omega)
            have d2 : ¬ 0 < k := by omega
            have d3 : ((k : Int) == (a : Int)) = true := by rw [beq_iff_eq]; omega
            have d4 : (k == a) = true := by rw [beq_iff_eq]; exact hka
            have HK := Lib.hid hka
            clear hka hk0
            go_wp2
            go_roundw
            case rel => exact ⟨k + 1, _, by omega, by rw [HS.out.1], by rw [HS.out.2], rfl, fun _ => by rw [← HK.out, HS.out.2], by go_num, hbr⟩
            case measure => simp [intOf]; omega
          · have d1 : decide ((0 : Int) < (k : Int)) = false := decide_eq_false (by omega)
            have d2 : ¬ 0 < k := by omega
            have HK := Lib.hid hka
            clear hka hk0
            go_wp2
            go_roundw
            case rel => exact ⟨k + 1, zz, by omega, by rw [HS.out.1], by rw [HS.out.2], rfl, fun h => HZ.out (by have := HK.out; omega), by go_num, hbr⟩
            case measure => simp [intOf]; omega
          · have d3 : ((k : Int) == (a : Int)) = true := by rw [beq_iff_eq]; omega
            have d4 : (k == a) = true := by rw [beq_iff_eq]; exact hka
            have HK := Lib.hid hka
            clear hka
            go_wp2
            go_roundw
            case rel => exact ⟨k + 1, _, by omega, by rw [HS.out.1], by rw [HS.out.2], rfl, fun _ => by rw [← HK.out, HS.out.2], by go_num, hbr⟩
            case measure => simp [intOf]; omega
          · have HK := Lib.hid hka
            clear hka
            go_wp2
            go_roundw
            case rel => exact ⟨k + 1, zz, by omega, by rw [HS.out.1], by rw [HS.out.2], rfl, fun h => HZ.out (by have := HK.out; omega), by go_num, hbr⟩
            case measure => simp [intOf]; omega
    · have hk3 : k = 3 := by omega
      have ex : str (glue (X.take k)) = str (glue X) := by rw [List.take_of_length_le (by rw [HXL.out]; omega)]
      have ez : zz = str (glue (Y.take (a + 1))) := HZ.out (by omega)
      have hxs : (str (glue X)).size ≤ 99 := by rw [← ex]; exact glue_take_len HX.out.right HX.out.le k
      have hzs : zz.size ≤ 99 := by rw [ez]; exact glue_take_len HY.out.right HY.out.le (a + 1)
      have hws := glue_take_len HX.out.right HX.out.le (b + 1)
      have HG : Hid (∀ w, Calls Tryd.prog 17 #[.string (str (glue X))] w (Gives (upsOf [] X) w)) := Lib.hid (fun w => ups_is _ (by omega) _ (by rw [str_toList]; exact names_ups HX.out.right HX.out.le) w)
      have hget : (upsOf [] X).getD b [] = glue (X.take (b + 1)) := by
        rw [List.getD_eq_getElem?_getD, upsOf_get X [] b (by rw [HXL.out]; omega)]; rfl
      obtain ⟨f1, f2, f3, f4, f5, f6⟩ := order_facts HX.out HY.out (a + 1) (b + 1) (by omega) (by omega)
      have f7 := under_empty HX.out
      obtain ⟨U, hU⟩ : ∃ U : ByteArray → ByteArray → Bool, ∀ s t, U s t = under s.data.toList t.data.toList := ⟨_, fun _ _ => rfl⟩
      have HUC : Hid (∀ s t : ByteArray, t.size ≤ 4611686018427387904 → ∀ w, Calls Tryd.prog 19 #[.string s, .string t] w fun e w' => e = .returned (.bool (U s t)) ∧ Below w.heap.size w w') :=
        Lib.hid (fun s t ht w => by rw [hU]; exact under_any s t ht w)
      obtain ⟨xs, hxe⟩ : ∃ xs, xs = str (glue X) := ⟨_, rfl⟩
      obtain ⟨ws, hwe⟩ : ∃ ws, ws = str (glue (X.take (b + 1))) := ⟨_, rfl⟩
      have u1 : U xs xs = true := by rw [hU, hxe, str_toList]; exact f1
      have u2 : U ws xs = true := by rw [hU, hxe, hwe, str_toList, str_toList]; exact f2
      have u3 : Hid (U xs ws = (xs.toList == ws.toList)) := Lib.hid (by
        rw [hU, hxe, hwe, str_toList, str_toList, f3, str_list, str_list, Bool.eq_iff_iff, decide_eq_true_iff, beq_iff_eq])
      have u4 : Hid (U zz ws = true → U zz xs = true) := Lib.hid (by rw [hU, hU, hxe, hwe, ez, str_toList, str_toList, str_toList]; exact f4)
      have u5 : Hid (U zz ws = true → U ws zz = true → (zz.toList == ws.toList) = true) := Lib.hid (by
        rw [hU, hU, hwe, ez, str_toList, str_toList, str_list, str_list]
        intro h1 h2
        rw [f5 h1 h2]
        simp)
      have u6 : Hid (U zz xs = true → U zz ws = true ∨ U ws zz = true) := Lib.hid (by rw [hU, hU, hU, hxe, hwe, ez, str_toList, str_toList, str_toList]; exact f6)
      have u7 : U ⟨#[]⟩ xs = false := by rw [hU, hxe, str_toList]; exact f7
      have u8 : U xs ⟨#[]⟩ = false := by rw [hU]; exact under_none (by decide)
      have HGet : Hid (str ((upsOf [] X).getD b []) = ws) := Lib.hid (by rw [hget, hwe])
      have HL : Hid ((upsOf [] X).length = 3) := Lib.hid (by rw [upsOf_length]; exact HXL.out)
      rw [ex]
      rw [← hxe] at hxs HG ⊢
      rw [← hwe] at hws
      have hb := hb1.trans (hbr.mono hb1.size)
      clear ex ez f1 f2 f3 f4 f5 f6 f7 hget hU hxe hwe hb1 hbr HZ HV1 HV1' HXE HYE hk3
      go_wp2_with fail
      (with_reducible refine (HG.out _).mono ?_)
      rintro e w2 ⟨vu, rfl, hvu, hb5⟩
      replace hb := grows hb hb5
      rcases hvu with ⟨h, _⟩ | ⟨g, cg, rfl, hg, _, _, hgc⟩
      · rw [h] at HL; exact absurd HL.out (by decide)
      have cu : w2.cell? ⟨g, b, none⟩ = some (.string ws) := by rw [← HGet.out]; exact hgc b (by rw [HL.out]; omega)
      rw [HL.out]
      clear hgc hb5 HG
      have he : Hid ((xs.toList == ws.toList) = true ∧ U xs ws = true) ∨ Hid ((xs.toList == ws.toList) = false ∧ U xs ws = false) := by
        cases h : (xs.toList == ws.toList)
        · exact .inr (Lib.hid ⟨rfl, by rw [u3.out, h]⟩)
        · exact .inl (Lib.hid ⟨rfl, by rw [u3.out, h]⟩)
      have hcase : Hid (U zz ws = true ∧ U zz xs = true ∧ U ws zz = true ∧ (zz.toList == ws.toList) = true) ∨ Hid (U zz ws = true ∧ U zz xs = true ∧ U ws zz = false) ∨ Hid (U zz ws = false ∧ U zz xs = true ∧ U ws zz = true) ∨ Hid (U zz ws = false ∧ U zz xs = false) := by
        cases h1 : U zz ws <;> cases h2 : U zz xs <;> cases h3 : U ws zz
        · exact .inr (.inr (.inr (Lib.hid ⟨rfl, rfl⟩)))
        · exact .inr (.inr (.inr (Lib.hid ⟨rfl, rfl⟩)))
        · have := u6.out h2; rw [h1, h3] at this; simp at this
        · exact .inr (.inr (.inl (Lib.hid ⟨rfl, rfl, rfl⟩)))
        · have := u4.out h1; rw [h2] at this; simp at this
        · have := u4.out h1; rw [h2] at this; simp at this
        · exact .inr (.inl (Lib.hid ⟨rfl, rfl, rfl⟩))
        · exact .inl (Lib.hid ⟨rfl, rfl, rfl, u5.out h1 h3⟩)
      rcases he with he | he <;> obtain ⟨he1, he2⟩ := he.out <;> clear he
      all_goals
        rcases hcase with h | h | h | h
        · obtain ⟨h1, h2, h3, h4⟩ := h.out
          clear h
          go_wp2_with (go_at_call 19; (with_reducible refine (HUC.out _ _ (by first | omega | decide) _).mono ?_); rintro e w9 ⟨rfl, hb9⟩; replace hb := grows hb hb9; clear hb9)
          go_ret
          exact ⟨rfl, hb⟩
        · obtain ⟨h1, h2, h3⟩ := h.out
          clear h
          go_wp2_with (go_at_call 19; (with_reducible refine (HUC.out _ _ (by first | omega | decide) _).mono ?_); rintro e w9 ⟨rfl, hb9⟩; replace hb := grows hb hb9; clear hb9)
          go_ret
          exact ⟨rfl, hb⟩
        · obtain ⟨h1, h2, h3⟩ := h.out
          clear h
          go_wp2_with (go_at_call 19; (with_reducible refine (HUC.out _ _ (by first | omega | decide) _).mono ?_); rintro e w9 ⟨rfl, hb9⟩; replace hb := grows hb hb9; clear hb9)
          go_ret
          exact ⟨rfl, hb⟩
        · obtain ⟨h1, h2⟩ := h.out
          clear h
          go_wp2_with (go_at_call 19; (with_reducible refine (HUC.out _ _ (by first | omega | decide) _).mono ?_); rintro e w9 ⟨rfl, hb9⟩; replace hb := grows hb hb9; clear hb9)
          go_ret
          exact ⟨rfl, hb⟩

theorem lists_of (bss : List (List UInt8)) : ∃ X : List (List UInt8), X.length = 3 ∧ Path X ∧ ∀ k (h : k < X.length), (∀ h' : k < bss.length, X[k] = made bss[k]) ∧ (¬ k < bss.length → X[k] = [113]) := by
  have hq : right [113] = true := by decide
  refine ⟨(List.range 3).map fun k => if h : k < bss.length then made bss[k] else [113], by simp, ⟨fun a ha => ?_, by simp, by simp⟩, fun k h => ⟨fun h' => ?_, fun h' => ?_⟩⟩
  · obtain ⟨k, _, rfl⟩ := List.mem_map.1 ha
    split
    · exact made_right _
    · exact hq
  · simp [h']
  · simp only [List.getElem_map, List.getElem_range]
    rw [dif_neg h']
theorem lists_on {X : List (List UInt8)} (hX : X.length = 3) (hP : Path X) (css : List (List UInt8)) : ∃ Y : List (List UInt8), Y.length = 3 ∧ Path Y ∧ ∀ k (h : k < X.length) (h2 : k < Y.length), (∀ h' : k < css.length, Y[k] = made css[k]) ∧ (¬ k < css.length → Y[k] = X[k]) := by
  refine ⟨(List.range 3).map fun k => if h : k < css.length then made css[k] else X.getD k [], by simp, ⟨fun a ha => ?_, by simp, by simp⟩, fun k h h2 => ⟨fun h' => ?_, fun h' => ?_⟩⟩
  · obtain ⟨k, hk, rfl⟩ := List.mem_map.1 ha
    have hk3 := List.mem_range.1 hk
    split
    · exact made_right _
    · rw [getD_lt (by omega)]
      exact hP.right _ (List.getElem_mem _)
  · simp [h']
  · simp only [List.getElem_map, List.getElem_range]
    rw [dif_neg h', getD_lt h]

theorem walk (v : Value) (bss : List (List UInt8)) (v' : Value) (css : List (List UInt8)) (m : Int) (m0 : 0 ≤ m) (m1 : m ≤ 255) (n : Int) (n0 : 0 ≤ n) (n1 : n ≤ 255) (w : World) (hv : ByteRows w v bss) (hv' : ByteRows w v' css) :
    Calls Tryd.prog 7 #[v, v', .int .u8 m, .int .u8 n] w fun e w' => e = .returned (.bool true) ∧ Below w.heap.size w w' := by
  obtain ⟨x, rfl⟩ := Int.eq_ofNat_of_zero_le m0
  obtain ⟨y, rfl⟩ := Int.eq_ofNat_of_zero_le n0
  have h1 := hv
  have h2 := hv'
  obtain ⟨o, cap, rfl, hm, _⟩ := h1
  obtain ⟨o', cap', rfl, hm', _⟩ := h2
  unfold maxLen at hm hm'
  obtain ⟨X, hX, PX, EX⟩ := lists_of bss
  obtain ⟨Y, hY, PY, EY⟩ := lists_on hX PX css
  exact walk_any o o' cap cap' bss css X Y hm hm' x y (by omega) (by omega) (x % 3) (y % 3) rfl rfl hX hY (Lib.hid PX) (Lib.hid PY) (Lib.hid EX) (Lib.hid EY) w (Lib.hid hv) (Lib.hid hv')

open Go.ChangeShapes Go.WideShapes Go.ChangeAt
set_option maxRecDepth 100000 in
theorem lifted (os : Os) (started : os.Started) (H : Type) (enc : TypeId × Value → H) :
    ReturnsInHanded {} Tryd.checked os 7 .any (fun w args => (Rows.wordUnderSpec.pre enc Tryd.prog Tryd.f7 Rows.wordUnderRow.domain false w args ∧ laidMetH Tryd.prog Rows.wordUnderRow.laid w) ∧ sizedMet enc Tryd.prog Tryd.f7 (OpenSpec.ofChange Rows.wordUnderSpec) false w args)
      (Rows.wordUnderSpec.post enc Tryd.prog Tryd.f7 false true false false) := by
  refine returnsInHanded_of_change_and (C := Tryd.checked) (X := fun w _ => laidMetH Tryd.prog Rows.wordUnderRow.laid w) (fun _ _ _ hh h => h.of_heap hh) Ends.own started (by kernel_rfl) Tryd.func7
    (ChangeSpec.witness_shaped (enc := enc) (C := Tryd.checked) (os := os) (X := fun w _ => laidMetH Tryd.prog Rows.wordUnderRow.laid w) false (World.laidAll Tryd.prog os Rows.wordUnderRow.laid) #[.slice none 0 0, .slice none 0 0, .int .u8 0, .int .u8 0] 8 (World.laidAll_os _ _ _)
      (World.shaped_of_ZipB (by kernel_rfl) (by kernel_rfl)) (by kernel_rfl) (by kernel_rfl) (by kernel_rfl)
      (by rw [MakeChecks.laidMetH_plain _ _ _ (by kernel_rfl)]; exact laidMet_laidAll _ (by kernel_rfl) (by kernel_rfl))) ?_
  intro W base args ds gs before hval0 hW _ _ _ _
  have hval : ∀ (j : Nat) t v, Tryd.f7.params[j]? = some t → args[j]? = some v → Value.okWide Tryd.prog W .any base t v := hval0
  have hW' := hW
  obtain ⟨p, q, hA0, hV, rfl, hfz, hnd⟩ := hW
  have hA : DataW.TrodAll enc Tryd.prog W 0 (fun _ => true) true Tryd.f7.params.toList args.toList ds p := hA0
  rw [Tryd.params7] at hA hval
  obtain ⟨v0, vs0, d0, ds0, p0, q0, hargs, rfl, rfl, h0, r0⟩ := trodAll_cons hA
  obtain ⟨v1, vs1, d1, ds1, p1, q1, rfl, rfl, rfl, h1, r1⟩ := trodAll_cons r0
  obtain ⟨v2, vs2, d2, ds2, p2, q2, rfl, rfl, rfl, h2, r2⟩ := trodAll_cons r1
  obtain ⟨v3, vs3, d3, ds3, p3, q3, rfl, rfl, rfl, h3, r3⟩ := trodAll_cons r2
  obtain ⟨rfl, rfl, rfl⟩ := trodAll_nil r3
  obtain rfl : args = #[v0, v1, v2, v3] := by cases args; simp_all
  obtain ⟨rfl, rfl⟩ := trodVars_none hV
  obtain ⟨a0, w0⟩ := Args.open_rows Tryd.underlying33 Tryd.underlying29 Tryd.underlying5 (by kernel_rfl) (by kernel_rfl) (hval 0 33 v0 rfl rfl) h0
  obtain ⟨a1, w1⟩ := Args.open_rows Tryd.underlying33 Tryd.underlying29 Tryd.underlying5 (by kernel_rfl) (by kernel_rfl) (hval 1 33 v1 rfl rfl) h1
  obtain ⟨a2, rfl, rfl, rfl, w2⟩ := open_int Tryd.underlying5 (hval 2 5 v2 rfl rfl) h2
  obtain ⟨a3, rfl, rfl, rfl, w3⟩ := open_int Tryd.underlying5 (hval 3 5 v3 rfl rfl) h3
  have b2 := bounds_u8 w2
  have b3 := bounds_u8 w3
  refine (walk v0 a0 v1 a1 a2 b2.1 b2.2 a3 b3.1 b3.2 W w0 w1).mono fun e W' ⟨he, hb⟩ => ?_
  subst he
  exact ⟨_, rfl, Ends.law_end Ends.laidOut (by rw [Tryd.params7]; decide +kernel) rfl (by kernel_rfl) Tryd.underlying4 hW' rfl hb⟩

theorem row : Rows.WordUnderSaid :=
  OpenClaim.holds_of_wide 7 Tryd.f7 rfl rfl rfl rfl rfl rfl rfl ⟨rfl, rfl, rfl, rfl, rfl⟩ rfl rfl rfl rfl rfl (by kernel_rfl) Tryd.func7 (by kernel_rfl)
    (of_decide_eq_true (by kernel_rfl)) (by unfold Func.isWrapper; first | (rw [if_pos (by decide +kernel)]; kernel_rfl) | (rw [if_neg (by decide +kernel)]; exact ⟨rfl, rfl⟩))
    (fun os started H enc _ => lifted os started H enc)

/-- The statement: the tied card. -/
theorem proved : Rows.WordUnderCardSaid :=
  Claim7.holds_tied_plain_at .later [] [.data, .pinned] true Rows.wordUnderCard.stood.harness false row (fun _ h => by cases h) (by kernel_rfl) (fun _ h => by cases h) wordUnder_row_tie rfl ⟨rfl, rfl⟩ (by kernel_rfl) rfl
    (fun f fn hf hfn => by
      obtain rfl : f = 7 := Option.some.inj ((show Tryd.prog.funcNamed "demesne/demesnelaw02.WordUnder" = some 7 by kernel_rfl).symm.trans hf) |>.symm
      obtain rfl : fn = Tryd.f7 := (Option.some.inj (Tryd.func7.symm.trans hfn)).symm
      exact ⟨by kernel_rfl, fun j t ht => by
        rw [Tryd.params7] at ht
        have hm : t ∈ [33, 33, 5, 5] := by simpa using Array.mem_of_getElem? ht
        have hall : ([33, 33, 5, 5].all fun u => !Tryd.prog.wantsStandIn u) = true := by kernel_rfl
        exact (show Tryd.prog.wantsStandIn t = false by simpa using List.all_eq_true.1 hall t hm)⟩)
    (by kernel_rfl)
end Go.Proofs.YtmcpeejmmhaohaaDoor.wordUnder
