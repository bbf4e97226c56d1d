/- What word.Ups, word.Under and the comparing of two slices of texts answer, for all texts; of memory that was there nothing turns. -/
import Derived.Test.YtbilkeadhflibaaGreatDoorJL4
import Derived.Deep.QuietTactic
import Derived.BigQuiet
import Derived.OwnWalk
import Derived.Lib.SlicesS
namespace Go.Proofs.YtbilkeadhflibaaGreatDoor.Word
open Go.RowKit

/-- Texts as values. -/
def strs (ls : List (List UInt8)) : List Value := ls.map fun l => Value.string (str l)
theorem strs_snoc (ls : List (List UInt8)) (a : List UInt8) : strs (ls ++ [a]) = strs ls ++ [.string (str a)] := by simp [strs]

theorem own_holds {w : World} {B n : Nat} {v : Value} {ls : List (List UInt8)} (hn : n = ls.length) (hl : ls ≠ []) (h : w.ownsRow B 9 1 v n (strs ls)) : Holds w v ls := by
  subst hn
  have h' := h
  rcases h.2 with ⟨rfl, h0⟩ | ⟨g, cap, cur, rfl, _, hg, hc, _⟩
  · exact .inl ⟨List.eq_nil_of_length_eq_zero h0, rfl⟩
  · refine .inr ⟨g, cap, rfl, (h'.lt g rfl).2, hl, hc, fun j hj => ?_⟩
    rw [h'.cellAt j (by omega)]
    simp [strs, hj]

theorem glue_head (p : List UInt8) (rest : List (List UInt8)) : ∃ t, glue (p :: rest) = p ++ t ∧ (rest ≠ [] → t = 47 :: glue rest) := by
  cases rest with
  | nil => exact ⟨[], by simp [glue], fun h => absurd rfl h⟩
  | cons q rest => exact ⟨47 :: glue (q :: rest), rfl, fun _ => rfl⟩

set_option maxHeartbeats 4000000 in
set_option maxRecDepth 100000 in
theorem ups_walk (s : ByteArray) (hs : s.size ≤ 4611686018427387904) (ps : List (List UInt8)) (h3 : ps.length ≤ 3) (HG : Hid (ps ≠ [] → glue ps = s.data.toList)) (HU : Hid (ups s.data.toList = upsOf [] ps))
    (HP : Hid (∀ w, Calls Tryz.prog 43 #[.string s] w (Gives ps w))) (w : World) :
    Calls Tryz.prog 64 #[.string s] w (Gives (ups s.data.toList) w) := by
  obtain ⟨i0, hi, hz0, hz1, hz2⟩ := info_parts info9
  go_enter Tryz.func64, Tryz.ntmps64
  go_wp2_with (go_at_call 43; refine (HP.out _).mono ?_; rintro e w1 ⟨v, rfl, hv, hb1⟩; rcases hv with ⟨rfl, rfl⟩ | ⟨g, cap, rfl, hg, hne, hcap, hcell⟩)
  · go_loopw [2, 9] (fun t i wr => t = .slice none 0 0 ∧ i = .int .i64 0 ∧ wr = w1) (fun _ _ _ => 0)
    case atStart => exact ⟨rfl, rfl, rfl⟩
    case round =>
      obtain ⟨rfl, rfl, rfl⟩ := hrel
      go_wp2
      go_ret
      exact ⟨_, rfl, .inl ⟨by rw [HU.out]; rfl, rfl⟩, hb1⟩
  · have HC := Lib.hid hcell
    have HN := Lib.hid hne
    clear hcell hne
    go_loopw [2, 3, 9] (fun t e i wr => ∃ (k : Nat) (pre : List UInt8) (done : List (List UInt8)), i = .int .i64 k ∧ k ≤ ps.length ∧ done.length = k ∧ e = .int .i64 pre.length ∧ pre.length ≤ s.size + 1 ∧
      (ps.drop k ≠ [] → pre ++ glue (ps.drop k) = s.data.toList) ∧ done ++ upsOf pre (ps.drop k) = upsOf [] ps ∧ wr.ownsRow w1.heap.size 9 1 t done.length (strs done) ∧ Below w1.heap.size w1 wr) (fun _ _ i _ => ps.length - (intOf i).toNat)
    case atStart => exact ⟨0, [], [], rfl, Nat.zero_le _, rfl, rfl, by simp, fun h => by rw [List.nil_append, List.drop_zero]; exact HG.out (by simpa using h), by simp, World.ownsRow_nil _ _ _ _, Below.refl _ _⟩
    case round =>
      obtain ⟨k, pre, done, rfl, hk, hd, rfl, hpre, hglue, hups, hown, hb⟩ := hrel
      have HD := Lib.hid hd
      have HGL := Lib.hid hglue
      have HUP := Lib.hid hups
      clear hglue hups
      by_cases hlt : k < ps.length
      · obtain ⟨p, hp⟩ : ∃ p, p = ps[k] := ⟨_, rfl⟩
        have hdrop : ps.drop k = p :: ps.drop (k + 1) := by rw [hp]; exact List.drop_eq_getElem_cons hlt
        have hcl : wr.cell? ⟨g, k, none⟩ = some (.string (str p)) := by
          rw [hb.cell hg, HC.out k hlt, List.getD_eq_getElem?_getD, List.getElem?_eq_getElem hlt, hp]; rfl
        obtain ⟨t, ht1, ht2⟩ := glue_head p (ps.drop (k + 1))
        have hs1 : pre ++ (p ++ t) = s.data.toList := by rw [← ht1, ← hdrop]; exact HGL.out (by rw [hdrop]; simp)
        have hlen : pre.length + p.length + t.length = s.size := by rw [← size_list, ← hs1]; simp; omega
        have hpl : (str p).size = p.length := str_size p
        have HT := Lib.hid ht2
        have HS1 := Lib.hid hs1
        have HDR := Lib.hid hdrop
        have hle : pre.length + p.length ≤ s.size := by omega
        clear hp hdrop ht1 ht2 hs1 hd hlen
        have hex : s.extract 0 (pre.length + p.length) = str (pre ++ p) := by
          rw [extract_take, ← HS1.out, ← List.append_assoc, List.take_append_of_le_length (by simp), List.take_of_length_le (by simp)]
        have HX := Lib.hid hex
        clear hex
        have hk3 : done.length + 1 ≤ 4 := by have := HD.out; omega
        go_wp2_with (at_builtin; refine wpList_append_own _ rfl _ _ 28 rfl w1.heap.size 9 i0 (.string ByteArray.empty) 1 16 Tryz.underlying28 hi hz0 hz1 hz2 rfl (by decide) _ _ _ rfl (hown.alloc _) ⟨wr.heap.size, 0, none⟩ 1 1 [.string (str (pre ++ p))] rfl rfl ?c1 ?c2 ?c3 ?c4 ?c5 ?_)
        case c1 => rw [HX.out]; exact cell_one_new _ _ _
        case c2 => intro u hu; simp at hu; subst hu; rfl
        case c3 => unfold maxLen; omega
        case c4 => omega
        case c5 => have := hb.size; simp; omega
        intro v' w2 hown' hgrow _
        have hown2 : w2.ownsRow w1.heap.size 9 1 v' (done ++ [pre ++ p]).length (strs (done ++ [pre ++ p])) := by rw [strs_snoc]; simpa using hown'
        have hb' : Below w1.heap.size w1 w2 := (hb.alloc hb.size _).grown hgrow (by have := hb.size; simp; omega) (fun k hk => (hown.lt k hk).1)
        clear hown hown' hgrow
        go_wp2
        go_roundw
        case rel =>
          refine ⟨k + 1, pre ++ p ++ [47], done ++ [pre ++ p], by go_num, by omega, by simp [HD.out], ?_, ?_, fun h => ?_, ?_, hown2, hb'⟩
          · congr 1; simp; omega
          · simp; omega
          · rw [← HS1.out, HT.out h]; simp
          · rw [← HUP.out, HDR.out, upsOf, List.append_assoc]; rfl
        case measure => simp [intOf]; omega
      · have hkn : k = ps.length := by omega
        have HK := Lib.hid hkn
        clear hkn
        go_wp2
        go_ret
        have e1 := HUP.out
        rw [HK.out, List.drop_length, upsOf, List.append_nil] at e1
        refine ⟨_, rfl, ?_, hb1.trans (hb.mono hb1.size)⟩
        rw [HU.out, ← e1]
        refine own_holds rfl (fun h => ?_) hown
        have := HD.out
        rw [h, HK.out] at this
        exact HN.out (List.eq_nil_of_length_eq_zero this.symm)

theorem ups_any (s : ByteArray) (hs : s.size ≤ 4611686018427387904) (w : World) : Calls Tryz.prog 64 #[.string s] w (Gives (ups s.data.toList) w) :=
  ups_walk s hs (parts s.data.toList) (parts_le _) (Lib.hid fun h => parts_glue h) (Lib.hid rfl) (Lib.hid fun w => parts_any s hs w) w

/-! ### slices.Index and slices.Contains -/

theorem getD_lt {ls : List (List UInt8)} {k : Nat} (h : k < ls.length) : ls.getD k [] = ls[k] := by
  rw [List.getD_eq_getElem?_getD, List.getElem?_eq_getElem h]; rfl

set_option maxHeartbeats 1000000 in
theorem contains_any (v : Value) (ls : List (List UInt8)) (x : ByteArray) (w : World) (hv : Holds w v ls) (hl : ls.length ≤ 4611686018427387904) :
    Calls Tryz.prog 63 #[v, .string x] w fun e w' => e = .returned (.bool (decide (x.data.toList ∈ ls))) ∧ w = w' := by
  have hidx : ∃ i : Int, (0 ≤ i ↔ x.data.toList ∈ ls) ∧ Calls Tryz.prog 104 #[v, .string x] w fun e w' => e = .returned (.int .i64 i) ∧ w = w' := by
    rcases hv with ⟨rfl, rfl⟩ | ⟨g, cap, rfl, hg, hne, hcap, hcell⟩
    · refine ⟨-1, by simp, ?_⟩
      go_enter Tryz.func104, Tryz.ntmps104
      go_wp2
      go_loop [8] (fun i => i = .int .i64 0) (fun _ => 0)
      case atStart => rfl
      case round =>
        subst hrel
        go_wp2
        go_ret
        exact ⟨rfl, rfl⟩
    · have HC := Lib.hid hcell
      clear hcell
      by_cases hm : x.data.toList ∈ ls
      · obtain ⟨m, hml, hmx, hmf⟩ : ∃ m, ∃ h : m < ls.length, ls[m] = x.data.toList ∧ ∀ j (hj : j < m), ls[j] ≠ x.data.toList := by
          have hex : ∃ m, ls[m]? = some x.data.toList := List.mem_iff_getElem?.1 hm
          have hfi : ls.findIdx (· == x.data.toList) < ls.length := List.findIdx_lt_length.2 ⟨_, hm, by simp⟩
          refine ⟨ls.findIdx (· == x.data.toList), hfi, by have := List.findIdx_getElem (w := hfi); simpa using this, fun j hj => by have := List.not_of_lt_findIdx hj; simpa using this⟩
        refine ⟨m, by simp [hm], ?_⟩
        have HM := Lib.hid hmx
        have HF := Lib.hid hmf
        clear hmx hmf hm
        go_enter Tryz.func104, Tryz.ntmps104
        go_wp2
        go_loop [8] (fun i => ∃ k : Nat, k ≤ m ∧ i = .int .i64 k) (fun i => m + 1 - (intOf i).toNat)
        case atStart => exact ⟨0, Nat.zero_le _, rfl⟩
        case round =>
          obtain ⟨k, hk, rfl⟩ := hrel
          have hlt : k < ls.length := by omega
          have hcl : w.cell? ⟨g, k, none⟩ = some (.string (str ls[k])) := by rw [HC.out k hlt, getD_lt hlt]
          by_cases hkm : k = m
          · subst hkm
            have he : (x.toList == (str ls[k]).toList) = true := by rw [HM.out, str_data]; simp
            have HE := Lib.hid he
            go_wp2
            go_ret
            exact ⟨rfl, rfl⟩
          · have he : (x.toList == (str ls[k]).toList) = false := by
              rw [beq_eq_false_iff_ne, Lib.toList_data, Lib.toList_data, str_toList]
              exact fun h => HF.out k (by omega) h.symm
            have hkm' : k < m := by omega
            clear hkm
            go_wp2
            go_round
            case rel => exact ⟨k + 1, by omega, by go_num⟩
            case measure => simp [intOf]; omega
      · refine ⟨-1, by simp [hm], ?_⟩
        have HM := Lib.hid hm
        clear hm
        go_enter Tryz.func104, Tryz.ntmps104
        go_wp2
        go_loop [8] (fun i => ∃ k : Nat, k ≤ ls.length ∧ i = .int .i64 k) (fun i => ls.length - (intOf i).toNat)
        case atStart => exact ⟨0, Nat.zero_le _, rfl⟩
        case round =>
          obtain ⟨k, hk, rfl⟩ := hrel
          by_cases hlt : k < ls.length
          · have hcl : w.cell? ⟨g, k, none⟩ = some (.string (str ls[k])) := by rw [HC.out k hlt, getD_lt hlt]
            have he : (x.toList == (str ls[k]).toList) = false := by
              rw [beq_eq_false_iff_ne, Lib.toList_data, Lib.toList_data, str_toList]
              exact fun h => HM.out (by rw [h]; exact List.getElem_mem hlt)
            go_wp2
            go_round
            case rel => exact ⟨k + 1, by omega, by go_num⟩
            case measure => simp [intOf]; omega
          · go_wp2
            go_ret
            exact ⟨rfl, rfl⟩
  obtain ⟨i, hi, hc⟩ := hidx
  have HI := Lib.hid hi
  have HC := Lib.hid hc
  clear hi hc hv
  go_enter Tryz.func63, Tryz.ntmps63
  go_wp2_with (go_at_call 104; refine HC.out.mono ?_; rintro e w' ⟨rfl, rfl⟩)
  go_ret
  refine ⟨?_, rfl⟩
  have : decide (0 ≤ i) = decide (x.data.toList ∈ ls) := by rw [decide_eq_decide]; exact HI.out
  rw [← this]
  rfl

set_option maxHeartbeats 1000000 in
theorem under_any (a b : ByteArray) (hb : b.size ≤ 4611686018427387904) (w : World) :
    Calls Tryz.prog 27 #[.string a, .string b] w fun e w' => e = .returned (.bool (under a.data.toList b.data.toList)) ∧ Below w.heap.size w w' := by
  have HU := Lib.hid (ups_any b hb)
  have hl : (ups b.data.toList).length ≤ 4611686018427387904 := by rw [ups_length]; have := parts_le b.data.toList; omega
  go_enter Tryz.func27, Tryz.ntmps27
  go_wp2_with (first
    | (go_at_call 64; refine (HU.out _).mono ?_; rintro e w1 ⟨v, rfl, hv, hb1⟩)
    | (go_at_call 63; refine (contains_any _ _ _ _ hv hl).mono ?_; rintro e w' ⟨rfl, rfl⟩))
  go_ret
  exact ⟨rfl, hb1⟩

/-! ### two slices of texts compared -/

theorem below_drewN {B : Nat} {a w : World} (h : Below B a w) : ∀ n, Below B a (w.drewN n)
  | 0 => h
  | n + 1 => by
    have := below_drewN h n
    exact this.drew

end Go.Proofs.YtbilkeadhflibaaGreatDoor.Word
