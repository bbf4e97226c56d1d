/- Proved: demesnelaw08.FrameLong answers true for every byte and length, and leaves them as they were. No condition. -/
import Derived.Test.YtlifobfbaiabgaaEnd
import Derived.Test.YtlifobfbaiabgaaFExam
import Derived.Test.YtlifobfbaiabgaaFByts
import Derived.Deep.RegionHeld3
import Derived.Deep.QuietTactic
import Derived.BigQuiet
namespace Go.Proofs.Ytlifobfbaiabgaa.frameLong
open Go.ChangeShapes Go.WideShapes Go.ChangeAt Go.RowKit
open Go.Proofs.Ytlifobfbaiabgaa.Frame

/-- So many places filled. -/
def fill (c : UInt8) (N k : Nat) : List UInt8 := List.replicate k c ++ List.replicate (N - k) 0
theorem fill_len (c : UInt8) {N k : Nat} (h : k ≤ N) : (fill c N k).length = N := by simp [fill]; omega
theorem fill_zero (c : UInt8) (N : Nat) : fill c N 0 = List.replicate N 0 := by simp [fill]
theorem fill_all (c : UInt8) (N : Nat) : fill c N N = List.replicate N c := by simp [fill]
theorem fill_next (c : UInt8) {N k : Nat} (h : k < N) : (fill c N k).set k c = fill c N (k + 1) := by
  unfold fill
  rw [List.set_append_right _ _ (by simp), List.length_replicate, Nat.sub_self, show N - k = (N - (k + 1)) + 1 by omega, List.replicate_succ, List.set_cons_zero, List.replicate_succ', List.append_assoc]
  rfl

set_option maxRecDepth 100000 in
set_option maxHeartbeats 2000000 in
theorem walk1 (c : UInt8) (m N : Nat) (hN : N = 65530 + m % 12) (p : ByteArray) (HP : Hid (∀ w, Calls Try.prog 10 #[.string (str (List.replicate N c))] w fun e w' => e = .returned (.string p) ∧ Below w.heap.size w w'))
    (hp : (¬ (65536 : Int) < (N : Int) ∧ Hid (∀ w, Calls Try.prog 11 #[.string p, .int .i64 0] w fun e w' => e = .returned (.tuple #[.string (str (List.replicate N c)), .int .i64 (p.size : Nat), .bool true]) ∧ w = w')) ∨ ((65536 : Int) < (N : Int) ∧ p = ⟨#[]⟩)) (w : World) :
    Calls Try.prog 8 #[.int .u8 (c.toNat : Int), .int .u8 (m : Int)] w fun e w' => e = .returned (.bool true) ∧ Below w.heap.size w w' := by
  have hNz : 65530 + (m : Int) % 12 = (N : Int) := by omega
  have HNu := Lib.hid hN
  have HPp := Lib.hid hp
  have hN3 : N ≤ 70000 := by omega
  clear hN hp
  go_enter Try.func8, Try.ntmps8
  go_wp2_with fail
  refine (examples_any _).mono ?_
  rintro e w1 ⟨rfl, hw1⟩
  obtain ⟨w2, hmk, hB2, hw2⟩ := byts_make w1 N (by omega)
  have hw2' := grows hw1 hw2
  rw [← fill_zero c] at hB2
  have hgB : w.heap.size ≤ w1.heap.size := hw1.size
  obtain ⟨g, hg⟩ : ∃ g, w1.heap.size = g := ⟨_, rfl⟩
  rw [hg] at hmk hB2 hgB
  clear hw1 hw2
  go_wp2
  clear hmk
  go_loopw [7] (fun i wr => ∃ k : Nat, k ≤ N ∧ i = .int .i64 k ∧ Byts wr g (fill c N k) ∧ Below w.heap.size w wr) (fun i _ => N - (intOf i).toNat)
  case atStart => exact ⟨0, Nat.zero_le _, rfl, hB2, hw2'⟩
  case round =>
    clear hB2 hw2'
    obtain ⟨k, hk, rfl, hB, hb⟩ := hrel
    by_cases hlt : k < N
    · have hltz : (k : Int) < (N : Int) := by omega
      obtain ⟨d, hd⟩ : ∃ d, (fill c N k)[k]? = some d := ⟨_, List.getElem?_eq_getElem (by rw [fill_len c hk]; exact hlt)⟩
      obtain ⟨hc, hf⟩ := hB.at hd
      have HN := Lib.hid (hB.set c (k := k) (by rw [fill_len c hk]; exact hlt))
      rw [fill_next c hlt] at HN
      have HB := Lib.hid (hb.setCell (p := (⟨g, k, none⟩ : Addr)) hgB (.int .u8 (c.toNat : Int)))
      clear hB hb hd
      go_wp2
      go_roundw
      case rel => exact ⟨k + 1, by omega, by go_num, HN.out, HB.out⟩
      case measure => simp [intOf]; omega
    · obtain rfl : k = N := by omega
      rw [fill_all] at hB
      have hcv := hB.conv (n := k) (cap := k) (by simp)
      have HB := Lib.hid hB
      clear hB
      go_wp2_with fail
      refine (HP.out _).mono ?_
      rintro e w5 ⟨rfl, hw5⟩
      have hb5 := grows hb hw5
      have hcv5 := (HB.out.below hw5).conv (n := k) (cap := k) (by simp)
      clear hb hw5 hcv
      rcases HPp.out with ⟨hbig, HNx⟩ | ⟨hbig, rfl⟩
      · go_wp2_with fail
        refine (HNx.out _).mono ?_
        rintro e w6 ⟨rfl, rfl⟩
        go_wp2
        go_ret
        exact ⟨rfl, hb5⟩
      · go_wp2
        go_ret
        exact ⟨rfl, hb5⟩

theorem put_told (c : UInt8) (N : Nat) (hN : N ≤ 65536) (w : World) : Calls Try.prog 11 #[.string (str (putF (List.replicate N c))), .int .i64 0] w fun e w' => e = .returned (.tuple #[.string (str (List.replicate N c)), .int .i64 ((str (putF (List.replicate N c))).size : Nat), .bool true]) ∧ w = w' := by
  have hbl : (List.replicate N c).length ≤ 65536 := by simp; omega
  have hlen : (List.replicate N c).length = N := List.length_replicate
  obtain ⟨L, hL⟩ : ∃ L, List.replicate N c = L := ⟨_, rfl⟩
  rw [hL] at hbl hlen ⊢
  have hps := str_size (putF L)
  rw [putF_len hbl] at hps
  have h1 := next_any (str (putF L)) (by rw [hps]; omega) 0 (by decide) (by decide) w
  have h2 := next_put (s := putF L) (b := L) (r := []) (p := 0) hbl (by simp) (Nat.zero_le _)
  rw [str_toList] at h1
  rw [show ((0 : Nat) : Int) = 0 from rfl] at h2
  rw [h2] at h1
  unfold nextR at h1
  simp only [Nat.zero_add] at h1
  rw [show (str (putF L)).extract 8 (8 + L.length) = str L by
    rw [← str_of ((str (putF L)).extract 8 _), ext_list, str_toList, putF_eq hbl]
    congr 1
    show L.take (8 + L.length - 8) = _
    rw [Nat.add_sub_cancel_left, List.take_length]] at h1
  rw [hps, Nat.add_comm]
  exact h1

theorem walk (b : Int) (hb0 : 0 ≤ b) (hb1 : b ≤ 255) (n : Int) (hn0 : 0 ≤ n) (_ : n ≤ 255) (w : World) :
    Calls Try.prog 8 #[.int .u8 b, .int .u8 n] w fun e w' => e = .returned (.bool true) ∧ Below w.heap.size w w' := by
  obtain ⟨m, rfl⟩ := Int.eq_ofNat_of_zero_le hn0
  obtain ⟨c, rfl⟩ : ∃ c : UInt8, b = (c.toNat : Int) := ⟨b.toNat.toUInt8, by simp; omega⟩
  obtain ⟨N, hN⟩ : ∃ N, N = 65530 + m % 12 := ⟨_, rfl⟩
  refine walk1 c m N hN (str (putF (List.replicate N c))) (Lib.hid fun w => ?_) ?_ w
  · have := put_any (str (List.replicate N c)) (by rw [str_size, List.length_replicate]; omega) w
    rw [str_toList] at this
    exact this
  · by_cases hbig : 65536 < N
    · refine .inr ⟨by omega, ?_⟩
      unfold putF
      rw [if_pos (by simpa using hbig)]
      rfl
    · exact .inl ⟨by omega, Lib.hid (put_told c N (by omega))⟩

set_option maxRecDepth 100000 in
theorem lifted (os : Os) (started : os.Started) (H : Type) (enc : TypeId × Value → H) :
    ReturnsInHanded {} Try.checked os 8 .any (Rows.frameLongSpec.pre6 enc Try.prog Try.f8 Rows.frameLongRow.domain false) (Rows.frameLongSpec.post enc Try.prog Try.f8 false true false false) := by
  refine returnsInHanded_of_change_sized (C := Try.checked) Ends.own started (by kernel_rfl) Try.func8
    (ChangeSpec.witness6 (enc := enc) (C := Try.checked) false ⟨#[], #[.int .u8 0, .int .u8 0], []⟩ 8 (by kernel_rfl) (by kernel_rfl) (by kernel_rfl) (by kernel_rfl)) ?_
  intro W base args ds gs before hval0 hW _ _ _
  have hval : ∀ (j : Nat) t v, Try.f8.params[j]? = some t → args[j]? = some v → Value.okWide Try.prog W .any base t v := hval0
  have hW' := hW
  obtain ⟨p, q, hA0, hV, rfl, hfz, hnd⟩ := hW
  have hA : DataW.TrodAll enc Try.prog W 0 (fun _ => true) true Try.f8.params.toList args.toList ds p := hA0
  rw [Try.params8] at hA hval
  obtain ⟨v0, vs0, d0, ds0, p0, q0, hargs, rfl, rfl, h0, r0⟩ := trodAll_cons hA
  obtain ⟨v1, vs1, d1, ds1, p1, q1, rfl, rfl, rfl, h1, r1⟩ := trodAll_cons r0
  obtain ⟨rfl, rfl, rfl⟩ := trodAll_nil r1
  obtain rfl : args = #[v0, v1] := by cases args; simp_all
  obtain ⟨rfl, rfl⟩ := trodVars_none hV
  obtain ⟨a0, rfl, rfl, rfl, w0⟩ := open_int Try.underlying5 (hval 0 5 v0 rfl rfl) h0
  obtain ⟨a1, rfl, rfl, rfl, w1⟩ := open_int Try.underlying5 (hval 1 5 v1 rfl rfl) h1
  have b0 := bounds_u8 w0
  have b1 := bounds_u8 w1
  refine (walk a0 b0.1 b0.2 a1 b1.1 b1.2 W).mono fun e W' ⟨he, hb⟩ => ?_
  subst he
  exact ⟨_, rfl, Ends.law_end Ends.laidOut (by rw [Try.params8]; decide +kernel) rfl (by kernel_rfl) Try.underlying4 hW' rfl hb⟩

/-- The statement. -/
theorem proved : Rows.FrameLongSaid :=
  OpenClaim.holds_of_wide 8 Try.f8 rfl rfl rfl rfl rfl rfl rfl ⟨rfl, rfl, rfl, rfl, rfl⟩ rfl rfl rfl rfl rfl (by kernel_rfl) Try.func8 (by kernel_rfl)
    (of_decide_eq_true (by kernel_rfl)) (by unfold Func.isWrapper; first | (rw [if_pos (by decide +kernel)]; kernel_rfl) | (rw [if_neg (by decide +kernel)]; exact ⟨rfl, rfl⟩))
    (fun os started H enc _ => lifted os started H enc)
end Go.Proofs.Ytlifobfbaiabgaa.frameLong
