/- What the document's own Ups and Under answer, for all texts; of memory that was there nothing turns. -/
import Derived.Test.YtmcpeejmmhaohaaDoorRefPath
namespace Go.Proofs.YtmcpeejmmhaohaaDoor.Word
open Go.RowKit

set_option maxRecDepth 100000 in
set_option maxHeartbeats 8000000 in
theorem refUps_any (s : ByteArray) (hs : s.size ≤ 4611686018427387904) (w : World) : Calls Tryd.prog 18 #[.string s] w (Gives (ups s.data.toList) w) := by
  obtain ⟨i0, hi, hz0, hz1, hz2⟩ := info_parts info9
  obtain ⟨ps, hps⟩ : ∃ ps, ps = parts s.data.toList := ⟨_, rfl⟩
  have HP := Lib.hid (refParts_any s hs)
  rw [← hps] at HP
  have h3 : ps.length ≤ 3 := by rw [hps]; exact parts_le _
  have HU : Hid (ups s.data.toList = upsOf [] ps) := Lib.hid (by rw [hps]; rfl)
  have HR : Hid (∀ a ∈ ps, right a = true) := Lib.hid (fun a ha => parts_right (l := s.data.toList) (by rw [← hps]; exact ha))
  clear hps
  go_enter Tryd.func18, Tryd.ntmps18
  go_wp2_with (go_at_call 16; (with_reducible refine (HP.out _).mono ?_); rintro e w1 ⟨v, rfl, hv, hb1⟩; rcases hv with ⟨rfl, rfl⟩ | ⟨g, cap, rfl, hg, hne, hcap, hcell⟩)
  · go_loopw [3, 6] (fun t i wr => t = .slice none 0 0 ∧ i = .int .i64 0 ∧ wr = w1) (fun _ _ _ => 0)
    case atStart => exact ⟨rfl, rfl, rfl⟩
    case round =>
      obtain ⟨rfl, rfl, rfl⟩ := hrel
      go_wp2
      go_ret
      exact ⟨_, rfl, .inl ⟨by rw [HU.out]; rfl, rfl⟩, hb1⟩
  · have HC := Lib.hid hcell
    have HN := Lib.hid hne
    clear hcell hne
    go_loopw [3, 5, 6] (fun t p i wr => ∃ k : Nat, i = .int .i64 k ∧ k ≤ ps.length ∧ p = .string (str (glue (ps.take k))) ∧ wr.ownsRow w1.heap.size 9 1 t k (strs (upsOf [] (ps.take k))) ∧ Below w1.heap.size w1 wr) (fun _ _ i _ => ps.length - (intOf i).toNat)
    case atStart => exact ⟨0, rfl, Nat.zero_le _, rfl, World.ownsRow_nil _ _ _ _, Below.refl _ _⟩
    case round =>
      obtain ⟨k, rfl, hk, rfl, hown, hb⟩ := hrel
      by_cases hlt : k < ps.length
      · obtain ⟨p, hp⟩ : ∃ p, p = ps[k] := ⟨_, rfl⟩
        have hcl : wr.cell? ⟨g, k, none⟩ = some (.string (str p)) := by rw [hb.cell hg, HC.out k hlt, getD_lt hlt, hp]
        have hpl : (str p).size ≤ 32 := by rw [hp, str_size]; exact (right_free (HR.out _ (List.getElem_mem hlt))).2
        have HT := Lib.hid (take_glue hlt)
        have HUT := Lib.hid (ups_take hlt)
        rw [← hp] at HT
        have hqs : (str (glue (ps.take k))).size ≤ 99 := by
          rw [str_size]
          have h1 := glue_len (ps.take k) (fun a ha => (right_free (HR.out a (List.mem_of_mem_take ha))).2)
          have h2 := List.length_take_le' k ps
          omega
        obtain ⟨q, hq⟩ : ∃ q, q = str (glue (ps.take k)) := ⟨_, rfl⟩
        have HQ := Lib.hid hq
        rw [← hq] at hqs ⊢
        clear hp hq
        have hk0 : k = 0 ∨ 0 < k := by omega
        rcases hk0 with rfl | hk0
        · go_wp2_with (at_builtin; refine wpList_append_own _ rfl _ _ 26 rfl w1.heap.size 9 i0 (.string ByteArray.empty) 1 16 Tryd.underlying26 hi hz0 hz1 hz2 rfl (by decide) _ _ _ rfl (hown.alloc _) ⟨wr.heap.size, 0, none⟩ 1 1 [.string (q ++ str p)] rfl rfl ?c1 ?c2 ?c3 ?c4 ?c5 ?_)
          case c2 => rfl
          case c3 => first | (unfold maxLen; omega) | decide
          case c5 => first | (have := hb.size; simp; omega) | (have := hb.size; omega)
          intro v' w4 hown' hgrow _
          have hown4 : w4.ownsRow w1.heap.size 9 1 v' (0 + 1) (strs (upsOf [] (ps.take (0 + 1)))) := by
            rw [HUT.out, strs_snoc, HT.out]
            have : q ++ str p = str p := by rw [HQ.out, List.take_zero, glue, str_append]; rfl
            rw [this] at hown'
            simpa using hown'
          have hb4 : Below w1.heap.size w1 w4 := (hb.alloc hb.size _).grown hgrow (by have := hb.size; simp; omega) (fun k hk => (hown.lt k hk).1)
          clear hown hown' hgrow
          go_wp2
          go_roundw
          case rel =>
            refine ⟨0 + 1, by go_num, by omega, ?_, hown4, hb4⟩
            rw [HT.out, HQ.out]
            congr 1
          case measure => simp [intOf]; omega
        · go_wp2_with (at_builtin; refine wpList_append_own _ rfl _ _ 26 rfl w1.heap.size 9 i0 (.string ByteArray.empty) 1 16 Tryd.underlying26 hi hz0 hz1 hz2 rfl (by decide) _ _ _ rfl (hown.alloc _) ⟨wr.heap.size, 0, none⟩ 1 1 [.string (q ++ ⟨#[47]⟩ ++ str p)] rfl rfl ?d1 ?d2 ?d3 ?d4 ?d5 ?_)
          case d1 => exact cell_one_new _ _ _
          case d2 => intro u hu; simp at hu; subst hu; rfl
          case d3 => unfold maxLen; omega
          case d4 => omega
          case d5 => have := hb.size; simp; omega
          intro v' w4 hown' hgrow _
          have hstr : q ++ ⟨#[47]⟩ ++ str p = str (glue (ps.take (k + 1))) := by
            rw [HT.out, if_neg (by omega), HQ.out, show (⟨#[47]⟩ : ByteArray) = str [47] from rfl, str_append, str_append]
            simp
          have HSTR := Lib.hid hstr
          have hown4 : w4.ownsRow w1.heap.size 9 1 v' (k + 1) (strs (upsOf [] (ps.take (k + 1)))) := by
            rw [HUT.out, strs_snoc, ← hstr]
            exact hown'
          have hb4 : Below w1.heap.size w1 w4 := (hb.alloc hb.size _).grown hgrow (by have := hb.size; simp; omega) (fun k hk => (hown.lt k hk).1)
          clear hown hown' hgrow hstr
          go_wp2
          go_roundw
          case rel =>
            refine ⟨k + 1, by go_num, by omega, ?_, hown4, hb4⟩
            rw [← HSTR.out]
          case measure => simp [intOf]; omega
      · have hkn : k = ps.length := by omega
        have hown' : wr.ownsRow w1.heap.size 9 1 u3 ps.length (strs (upsOf [] ps)) := by rw [hkn, List.take_length] at hown; exact hown
        clear hkn hown
        go_wp2
        go_ret
        refine ⟨_, rfl, ?_, hb1.trans (hb.mono hb1.size)⟩
        rw [HU.out]
        exact own_holds (by rw [upsOf_length]) (fun h => HN.out (by have := congrArg List.length h; rw [upsOf_length] at this; exact List.eq_nil_of_length_eq_zero this)) hown'

set_option maxHeartbeats 2000000 in
theorem refUnder_any (a b : ByteArray) (hb : b.size ≤ 4611686018427387904) (w : World) :
    Calls Tryd.prog 20 #[.string a, .string b] w fun e w' => e = .returned (.bool (under a.data.toList b.data.toList)) ∧ Below w.heap.size w w' := by
  have HU := Lib.hid (refUps_any b hb)
  have hl : (ups b.data.toList).length ≤ 3 := by rw [ups_length]; exact parts_le _
  obtain ⟨ls, hls⟩ : ∃ ls, ls = ups b.data.toList := ⟨_, rfl⟩
  have HUn : Hid (under a.data.toList b.data.toList = decide (a.data.toList ∈ ls)) := Lib.hid (by rw [hls]; rfl)
  rw [← hls] at HU hl
  clear hls
  go_enter Tryd.func20, Tryd.ntmps20
  go_wp2_with (go_at_call 18; (with_reducible refine (HU.out _).mono ?_); rintro e w1 ⟨v, rfl, hv, hb1⟩; rcases hv with ⟨rfl, rfl⟩ | ⟨g, cap, rfl, hg, hne, hcap, hcell⟩)
  · go_loop [6] (fun i => i = .int .i64 0) (fun _ => 0)
    case atStart => rfl
    case round =>
      subst hrel
      go_wp2
      go_ret
      exact ⟨by rw [HUn.out]; rfl, hb1⟩
  · have HC := Lib.hid hcell
    clear hcell
    go_loop [6] (fun i => ∃ k : Nat, k ≤ ls.length ∧ i = .int .i64 k ∧ ∀ x ∈ ls.take k, x ≠ a.data.toList) (fun i => ls.length - (intOf i).toNat)
    case atStart => exact ⟨0, Nat.zero_le _, rfl, by simp⟩
    case round =>
      obtain ⟨k, hk, rfl, hno⟩ := hrel
      have HN := Lib.hid hno
      clear hno
      by_cases hlt : k < ls.length
      · have hcl : w1.cell? ⟨g, k, none⟩ = some (.string (str ls[k])) := by rw [HC.out k hlt, getD_lt hlt]
        by_cases he : ls[k] = a.data.toList
        · have e1 : ((str ls[k]).toList == a.toList) = true := by rw [he, str_data]; simp
          have HM := Lib.hid (show a.data.toList ∈ ls by rw [← he]; exact List.getElem_mem hlt)
          clear he
          go_wp2
          go_ret
          exact ⟨by rw [HUn.out, decide_eq_true HM.out]; rfl, hb1⟩
        · have e1 : ((str ls[k]).toList == a.toList) = false := by
            rw [beq_eq_false_iff_ne, Lib.toList_data, Lib.toList_data, str_toList]
            exact he
          have HE := Lib.hid he
          clear he
          go_wp2
          go_round
          case rel =>
            refine ⟨k + 1, by omega, by go_num, fun x hx => ?_⟩
            rw [List.take_succ_eq_append_getElem hlt, List.mem_append, List.mem_singleton] at hx
            rcases hx with hx | hx
            · exact HN.out x hx
            · rw [hx]; exact HE.out
          case measure => simp [intOf]; omega
      · have HM := Lib.hid (show ¬ a.data.toList ∈ ls by
          intro hm
          have := HN.out a.data.toList (by rw [List.take_of_length_le (by omega)]; exact hm)
          exact this rfl)
        go_wp2
        go_ret
        exact ⟨by rw [HUn.out, decide_eq_false HM.out]; rfl, hb1⟩
end Go.Proofs.YtmcpeejmmhaohaaDoor.Word
