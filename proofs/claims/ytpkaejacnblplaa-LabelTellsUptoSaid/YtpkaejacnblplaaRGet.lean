/- What the document's own Get answers of every text and place; of memory that was there nothing turns. -/
import Derived.Test.YtpkaejacnblplaaRForm
namespace Go.Proofs.Ytpkaejacnblplaa.Label
open Go.RowKit Go.Proofs.Ytpkaejacnblplaa.Word

def Small (ls : List Pr) : Prop := ∀ x ∈ ls, x.1.size ≤ 4611686018427387904 ∧ x.2.size ≤ 4611686018427387904
theorem Small.snoc {ls : List Pr} {x : Pr} (h : Small ls) (h1 : x.1.size ≤ 4611686018427387904) (h2 : x.2.size ≤ 4611686018427387904) : Small (ls ++ [x]) := fun y hy => by
  rcases List.mem_append.1 hy with hy | hy
  · exact h y hy
  · rw [List.mem_singleton] at hy; subst hy; exact ⟨h1, h2⟩
theorem text_some (s : ByteArray) (hs : s.size ≤ 9223372036854775797) (p : Int) : ∃ (t : ByteArray) (n : Int) (b : Bool), ∀ w, Calls Try.prog 32 #[.string s, .int .i64 p, .int .i64 32] w fun e w' => e = .returned (.tuple #[.string t, .int .i64 n, .bool b]) ∧ w = w' := by
  cases h : Wire.textV s.data.toList p 32 with
  | none => exact ⟨_, _, _, Wire.refText_no s hs p 32 (by omega) h⟩
  | some x => exact ⟨_, _, _, Wire.refText_yes s hs p 32 (by omega) x.1 x.2 h⟩

set_option maxHeartbeats 4000000 in
set_option maxRecDepth 100000 in
theorem refGet_rows (s : ByteArray) (hs : s.size ≤ 4611686018427387904) (p : Int) (w : World) :
    Calls Try.prog 14 #[.string s, .int .i64 p] w (TellsG (getL s p) w) := by
  obtain ⟨i0, hi, hz0, hz1, hz2⟩ := info_parts infoR
  obtain ⟨r, hr⟩ : ∃ r, Wire.getV s.data.toList p = r := ⟨_, rfl⟩
  cases r with
  | none =>
    have HT := Lib.hid (Wire.refGet_no s (by omega) p hr)
    have HE : Hid (getL s p = none) := Lib.hid (by unfold getL; rw [hr])
    clear hr
    go_enter Try.func14, Try.ntmps14
    go_wp2_with fail
    refine (HT.out _).mono ?_
    rintro e w1 ⟨rfl, rfl⟩
    go_wp2
    go_ret3
    rw [HE.out]
    exact ⟨rfl, Below.refl _ _⟩
  | some a =>
    obtain ⟨n, q⟩ := a
    have hgl := Wire.getV_lt hr
    have hn64 : n < 18446744073709551616 := hgl.1
    have hq : q ≤ s.size := by rw [← Wire.size_list]; exact hgl.2.2.1
    have HT := Lib.hid (Wire.refGet_yes s (by omega) p n q hr)
    by_cases h8 : 8 < n
    · have h8z : (8 : Int) < (n : Int) := by omega
      have HE : Hid (getL s p = none) := Lib.hid (by unfold getL; rw [hr]; simp only [if_pos h8])
      clear hr hgl
      go_enter Try.func14, Try.ntmps14
      go_wp2_with fail
      refine (HT.out _).mono ?_
      rintro e w1 ⟨rfl, rfl⟩
      go_wp2
      go_ret3
      rw [HE.out]
      exact ⟨rfl, Below.refl _ _⟩
    · have h8z : ¬ (8 : Int) < (n : Int) := by omega
      have hn8 : (n : Int) ≤ 8 := by omega
      have HE1 : Hid (getL s p = keepBoth (readN (oneGet s) n (q : Int))) := Lib.hid (by unfold getL; rw [hr]; simp only [if_neg h8])
      have HTY : Hid (∀ (p : Int) (a b : Nat), Wire.textV s.data.toList p 32 = some (a, b) → ∀ w, Calls Try.prog 32 #[.string s, .int .i64 p, .int .i64 32] w fun e w' => e = .returned (.tuple #[.string (s.extract a b), .int .i64 b, .bool true]) ∧ w = w') := Lib.hid fun p a b h w => Wire.refText_yes s (by omega) p 32 (by omega) a b h w
      have HTN : Hid (∀ (p : Int), Wire.textV s.data.toList p 32 = none → ∀ w, Calls Try.prog 32 #[.string s, .int .i64 p, .int .i64 32] w fun e w' => e = .returned (.tuple #[.string ⟨#[]⟩, .int .i64 0, .bool false]) ∧ w = w') := Lib.hid fun p h w => Wire.refText_no s (by omega) p 32 (by omega) h w
      have HTS := Lib.hid (text_some s (by omega) 0)
      have HXS : Hid (∀ a b, (s.extract a b).size ≤ 4611686018427387904) := Lib.hid fun a b => by rw [ByteArray.size_extract]; omega
      clear hr hgl
      go_enter Try.func14, Try.ntmps14
      go_wp2_with fail
      refine (HT.out _).mono ?_
      rintro e w1 ⟨rfl, rfl⟩
      go_wp2
      go_loopw [1, 9, 10] (fun pl t i wr => ∃ (k : Nat) (pp : Int) (done : List Pr), i = .int .i64 k ∧ k ≤ n ∧ done.length = k ∧ pl = .int .i64 pp ∧ Small done ∧ ahead done (readN (oneGet s) (n - k) pp) = readN (oneGet s) n (q : Int) ∧ wr.ownsRow w.heap.size 53 2 t done.length (done.flatMap enc) ∧ Below w.heap.size w wr) (fun _ _ i _ => n - (intOf i).toNat)
      case atStart => exact ⟨0, (q : Int), [], rfl, Nat.zero_le _, rfl, rfl, fun x hx => by simp at hx, by show ahead [] (readN (oneGet s) (n - 0) _) = _; rw [Nat.sub_zero]; cases readN (oneGet s) n (q : Int) <;> rfl, World.ownsRow_nil _ _ _ _, Below.refl _ _⟩
      case round =>
        obtain ⟨k, pp, done, rfl, hk, hd, rfl, hsm, hrd, hown, hb⟩ := hrel
        have HD := Lib.hid hd
        have HSM := Lib.hid hsm
        have HRD := Lib.hid hrd
        have HOWN := Lib.hid hown
        clear hd hrd hown hsm
        by_cases hlt : k < n
        · have hltz : (k : Int) < (n : Int) := by omega
          obtain ⟨r, hr⟩ : ∃ r, Wire.textV s.data.toList pp 32 = r := ⟨_, rfl⟩
          cases r with
          | none =>
            have HE : Hid (getL s p = none) := Lib.hid (by
              rw [HE1.out, ← HRD.out, show n - k = (n - k - 1) + 1 by omega, readN_stop (by unfold oneGet; rw [hr])]
              rfl)
            have HT1 := Lib.hid (HTN.out pp hr)
            obtain ⟨t, m, b, hts⟩ := HTS.out
            have HT2 := Lib.hid hts
            clear hr hts
            go_wp2_with fail
            refine (HT1.out _).mono ?_
            rintro e w1 ⟨rfl, rfl⟩
            go_wp2_with fail
            refine (HT2.out _).mono ?_
            rintro e w1 ⟨rfl, rfl⟩
            go_wp2
            go_ret3
            rw [HE.out]
            exact ⟨rfl, hb⟩
          | some a =>
            obtain ⟨a1, a2⟩ := a
            have HT1 := Lib.hid (HTY.out pp a1 a2 hr)
            obtain ⟨r2, hr2⟩ : ∃ r, Wire.textV s.data.toList (a2 : Int) 32 = r := ⟨_, rfl⟩
            cases r2 with
            | none =>
              have HE : Hid (getL s p = none) := Lib.hid (by
                rw [HE1.out, ← HRD.out, show n - k = (n - k - 1) + 1 by omega, readN_stop (by unfold oneGet; rw [hr]; simp only [hr2])]
                rfl)
              have HT2 := Lib.hid (HTN.out a2 hr2)
              clear hr hr2
              go_wp2_with fail
              refine (HT1.out _).mono ?_
              rintro e w1 ⟨rfl, rfl⟩
              go_wp2_with fail
              refine (HT2.out _).mono ?_
              rintro e w1 ⟨rfl, rfl⟩
              go_wp2
              go_ret3
              rw [HE.out]
              exact ⟨rfl, hb⟩
            | some b =>
              obtain ⟨b1, b2⟩ := b
              have HT2 := Lib.hid (HTY.out a2 b1 b2 hr2)
              have HOne : Hid (oneGet s pp = some ((s.extract a1 a2, s.extract b1 b2), (b2 : Int))) := Lib.hid (by unfold oneGet; rw [hr]; simp only [hr2])
              have hx1s := HXS.out a1 a2
              have hx2s := HXS.out b1 b2
              obtain ⟨x1, hx1⟩ : ∃ x, x = s.extract a1 a2 := ⟨_, rfl⟩
              obtain ⟨x2, hx2⟩ : ∃ x, x = s.extract b1 b2 := ⟨_, rfl⟩
              rw [← hx1] at HT1 HOne hx1s
              rw [← hx2] at HT2 HOne hx2s
              have HSN := Lib.hid (HSM.out.snoc (x := (x1, x2)) hx1s hx2s)
              have HLz : Hid (done.length + 1 ≤ maxLen ∧ (done.length + 1) * 32 ≤ 140737488355328 ∧ w.heap.size ≤ wr.heap.size + 1) := Lib.hid (by have := HD.out; have := hb.size; unfold maxLen; omega)
              have hbA : Below w.heap.size w (wr.alloc (.cells #[.string x1, .string x2] 53)) := hb.alloc hb.size _
              have HO2 : Hid (∀ x, (wr.alloc x).ownsRow w.heap.size 53 2 u9 done.length (done.flatMap enc)) := Lib.hid fun x => HOWN.out.alloc x
              clear hr hr2 hx1 hx2 hx1s hx2s
              go_wp2_with fail
              refine (HT1.out _).mono ?_
              rintro e w1 ⟨rfl, rfl⟩
              go_wp2_with fail
              refine (HT2.out _).mono ?_
              rintro e w1 ⟨rfl, rfl⟩
              go_wp2_with (at_builtin; refine wpList_append_own _ rfl _ _ 24 rfl w.heap.size 53 i0 (.agg #[.string ByteArray.empty, .string ByteArray.empty]) 2 32 Try.underlying24 hi hz0 hz1 hz2 rfl (by decide) _ _ _ rfl (HO2.out _) ⟨wr.heap.size, 0, none⟩ 1 1 [.string x1, .string x2] rfl rfl (new_twoT _ _ _ _) (fun u hu => by simp at hu; rcases hu with rfl | rfl <;> rfl) HLz.out.1 HLz.out.2.1 (by rw [World.size_alloc]; exact HLz.out.2.2) ?_)
              intro v' w4 hown' hgrow _
              have hown4 : w4.ownsRow w.heap.size 53 2 v' (done ++ [(x1, x2)]).length ((done ++ [(x1, x2)]).flatMap enc) := by rw [fm_snoc]; simpa using hown'
              have hb4 : Below w.heap.size w w4 := hbA.grown hgrow hbA.size (fun k hk => (HOWN.out.lt k hk).1)
              clear hown' hgrow
              go_wp2
              go_roundw
              case rel => exact ⟨k + 1, (b2 : Int), done ++ [(x1, x2)], by go_num, by omega, by simp [HD.out], rfl, HSN.out, by rw [← HRD.out, show n - k = (n - (k + 1)) + 1 by omega]; exact (readN_go HOne.out).symm, hown4, hb4⟩
              case measure => simp [intOf]; omega
        · have hltz : ¬ ((k : Int) < (n : Int)) := by omega
          have HE2 : Hid (getL s p = keepBoth (some (done, pp))) := Lib.hid (by
            have := HRD.out
            rw [show n - k = 0 by omega] at this
            rw [HE1.out, ← this]
            show keepBoth (some (done ++ [], pp)) = _
            rw [List.append_nil])
          have hrow := own_rowT HOWN.out
          have HRow := Lib.hid hrow
          have HRt := Lib.hid (refRight_rows u9 done wr hrow HSM.out (by have := HD.out; omega))
          obtain ⟨g, hg⟩ : ∃ g, rightL done = g := ⟨_, rfl⟩
          rw [hg] at HRt
          have HE3 : Hid (getL s p = if g = true then some (done, pp) else none) := Lib.hid (by rw [HE2.out, ← hg]; rfl)
          clear hrow hg
          go_wp2_with fail
          refine HRt.out.mono ?_
          rintro e w3 ⟨rfl, hb3⟩
          have hbF := grows hb hb3
          cases g with
          | true =>
            have HE : Hid (getL s p = some (done, pp)) := Lib.hid (by rw [HE3.out, if_pos rfl])
            go_wp2
            go_ret3
            rw [HE.out]
            exact ⟨⟨_, rfl, HRow.out.below hb3⟩, hbF⟩
          | false =>
            have HE : Hid (getL s p = none) := Lib.hid (by rw [HE3.out, if_neg (by simp)])
            go_wp2
            go_ret3
            rw [HE.out]
            exact ⟨rfl, hbF⟩
end Go.Proofs.Ytpkaejacnblplaa.Label
