/- What the document's own Count, letter and Right answer, for every text; the world is as it was. -/
import Derived.Test.YtbilkeadhflibaaGreatDoorRefRune
import Derived.Test.YtbilkeadhflibaaGreatDoorJL4
import Derived.Deep.QuietTactic
import Derived.BigQuiet
namespace Go.Proofs.YtbilkeadhflibaaGreatDoor.Word
open Go.RowKit Go.PlainAid

theorem below_draws {B : Nat} {a w : World} (h : Below B a w) : ∀ n, Below B a (w.drewN n)
  | 0 => h
  | n + 1 => (below_draws h n).drew
theorem extract_behind (s : ByteArray) (i : Nat) : s.extract i s.size = str (s.data.toList.drop i) := by
  apply ByteArray.ext
  apply Array.toList_inj.1
  rw [Lib.extract_data]
  simp [str]
  rw [List.take_of_length_le (by rw [List.length_drop, size_list]; omega)]
theorem longL_max {l : List UInt8} (h : l ≠ []) : max (longL l) 1 = (dec l).2 := by
  have := dec_pos (l := l)
  unfold longL
  rw [if_neg h]
  split
  · rename_i hc; rw [hc.2]; rfl
  · omega
theorem longL_zero {l : List UInt8} (h : l ≠ []) (hz : longL l = 0) : (dec l).1 = 65533 := by
  have := dec_pos (l := l)
  unfold longL at hz
  rw [if_neg h] at hz
  split at hz
  · rename_i hc; exact hc.1
  · omega
theorem longL_some {l : List UInt8} (h : l ≠ []) (hz : longL l ≠ 0) : longL l = (dec l).2 := by
  unfold longL at hz ⊢
  rw [if_neg h] at hz ⊢
  split at hz
  · simp at hz
  · rename_i hc; rw [if_neg hc]

/-- The three forms of a rune. -/
theorem dec_forms {l : List UInt8} (h : l ≠ []) (hz : longL l ≠ 0) : ((dec l).2 = 1 ∧ (dec l).1 = (l.getD 0 0).toNat ∧ (dec l).1 < 128) ∨ ((dec l).2 = 2 ∧ (dec l).1 = (l.getD 0 0).toNat % 32 * 64 + (l.getD 1 0).toNat % 64 ∧ 128 ≤ (dec l).1 ∧ 2 ≤ l.length) ∨ (3 ≤ (dec l).2 ∧ 2048 ≤ (dec l).1) := by
  have hl : 1 ≤ l.length := List.length_pos_iff.2 h
  have hn : ¬ ((dec l).1 = 65533 ∧ (dec l).2 = 1) := by
    intro hc
    apply hz
    unfold longL
    rw [if_neg h, if_pos hc]
  revert hn
  unfold dec Lib.decodeN
  generalize (l.getD 0 0).toNat = b0
  generalize (l.getD 1 0).toNat = b1
  generalize (l.getD 2 0).toNat = b2
  generalize (l.getD 3 0).toNat = b3
  repeat' split
  all_goals intro hn
  all_goals dsimp only at hn ⊢
  all_goals first | omega | (exfalso; omega)

theorem drop_ne {s : ByteArray} {pos : Nat} (hp : pos < s.size) : s.data.toList.drop pos ≠ [] := by
  intro h
  have := congrArg List.length h
  rw [List.length_drop, size_list, List.length_nil] at this
  omega

set_option maxHeartbeats 1000000 in
theorem refCount_any (s : ByteArray) (hs : s.size ≤ 4611686018427387904) (w : World) :
    Calls Tryz.prog 125 #[.string s] w fun e w' => e = .returned (.int .i64 (count s.data.toList)) ∧ w = w' := by
  go_enter Tryz.func125, Tryz.ntmps125
  go_wp2
  go_loop [3, 4] (fun n p => ∃ (pos acc : Nat), n = .int .i64 acc ∧ p = .int .i64 pos ∧ acc + (runes (s.data.toList.drop pos)).length = count s.data.toList ∧ acc ≤ pos ∧ pos ≤ s.size) (fun _ p => s.size - (intOf p).toNat)
  case atStart => exact ⟨0, 0, rfl, rfl, by simp [count], Nat.le_refl _, Nat.zero_le _⟩
  case round =>
    obtain ⟨pos, acc, rfl, rfl, hc, ha, hps⟩ := hrel
    have HC := Lib.hid hc
    clear hc
    by_cases hp : pos < s.size
    · have hne := drop_ne hp
      have hmax := longL_max hne
      have hle := dec_le hne
      rw [List.length_drop, size_list] at hle
      have HN := Lib.hid (show (acc + 1) + (runes (s.data.toList.drop (pos + (dec (s.data.toList.drop pos)).2))).length = count s.data.toList by
        have := HC.out
        rw [runes_cons hne, List.drop_drop, List.length_cons] at this
        omega)
      have hpos := dec_pos (l := s.data.toList.drop pos)
      have HL := Lib.hid (long_any (s.extract pos s.size) (by rw [ByteArray.size_extract]; omega))
      rw [extract_behind, str_toList] at HL
      have hx := extract_behind s pos
      obtain ⟨d, hd⟩ : ∃ d, d = (dec (s.data.toList.drop pos)).2 := ⟨_, rfl⟩
      obtain ⟨g, hg⟩ : ∃ g, g = longL (s.data.toList.drop pos) := ⟨_, rfl⟩
      obtain ⟨q, hq⟩ : ∃ q, q = str (s.data.toList.drop pos) := ⟨_, rfl⟩
      rw [← hd] at hmax hle hpos HN
      rw [← hg] at HL hmax
      rw [← hq] at HL hx
      have hmi : max (g : Int) 1 = (d : Int) := by omega
      clear hd hg hq hmax hne HC
      go_wp2_with (go_at_call 126; (with_reducible refine (HL.out _).mono ?_); rintro e w' ⟨rfl, rfl⟩)
      go_round
      case rel => exact ⟨pos + d, acc + 1, by go_num, by go_num, HN.out, by omega, by omega⟩
      case measure => simp [intOf]; omega
    · go_wp2
      go_ret
      have hc := HC.out
      rw [List.drop_eq_nil_of_le (by rw [size_list]; omega), runes_nil, List.length_nil, Nat.add_zero] at hc
      exact ⟨by rw [hc]; rfl, rfl⟩

/-! ### letter -/

theorem bool_ret {a b : Bool} (h : a = b) : Ending.returned (.bool a) = .returned (.bool b) := by rw [h]

set_option maxHeartbeats 1000000 in
theorem letter_one (s : ByteArray) (h1 : s.size = 1) (c : Nat) (hc : bt s 0 = c) (w : World) :
    Calls Tryz.prog 127 #[.string s] w fun e w' => e = .returned (.bool (decide (97 ≤ c) && decide (c ≤ 122))) ∧ Below w.heap.size w w' := by
  have hb := get_bt s
  by_cases h2 : 97 ≤ c <;> by_cases h3 : c ≤ 122
  all_goals
    go_enter Tryz.func127, Tryz.ntmps127
    go_wp2
    all_goals first | (exfalso; omega) | skip
    all_goals
      go_ret
      exact ⟨by first | (simp [h2, h3]; done) | (simp [h2, h3]; omega), Below.refl _ _⟩
set_option maxHeartbeats 1000000 in
theorem letter_long (s : ByteArray) (h1 : 3 ≤ s.size) (w : World) :
    Calls Tryz.prog 127 #[.string s] w fun e w' => e = .returned (.bool false) ∧ Below w.heap.size w w' := by
  have e1 : ((s.size : Int) == 1) = false := by rw [beq_eq_false_iff_ne]; omega
  have e2 : ((s.size : Int) == 2) = false := by rw [beq_eq_false_iff_ne]; omega
  go_enter Tryz.func127, Tryz.ntmps127
  go_wp2
  go_ret
  exact ⟨rfl, Below.refl _ _⟩

set_option maxHeartbeats 2000000 in
theorem letter_two (s : ByteArray) (h2 : s.size = 2) (c d : Nat) (hc : bt s 0 = c) (hd : bt s 1 = d) (hc' : c ≤ 255) (hd' : d ≤ 255) (w : World) :
    Calls Tryz.prog 127 #[.string s] w fun e w' => e = .returned (.bool ((decide (945 ≤ c % 32 * 64 + d % 64) && decide (c % 32 * 64 + d % 64 ≤ 969)) || (decide (1072 ≤ c % 32 * 64 + d % 64) && decide (c % 32 * 64 + d % 64 ≤ 1103)))) ∧ Below w.heap.size w w' := by
  have hb := get_bt s
  obtain ⟨n, hn⟩ : ∃ n, n = c % 32 * 64 + d % 64 := ⟨_, rfl⟩
  rw [← hn]
  have hs0 : 0 < s.size := by omega
  have hs1 : 1 < s.size := by omega
  go_enter Tryz.func127, Tryz.ntmps127
  go_wp2
  go_quiet (fail)
  have hni : (c : Int) % 32 * 64 + (d : Int) % 64 = (n : Int) := by omega
  rw [hni]
  have hw := below_draws (Below.refl w.heap.size w) nq
  clear hni hn hb hc hd
  by_cases a1 : 945 ≤ n <;> by_cases a2 : n ≤ 969 <;> by_cases a3 : 1072 ≤ n <;> by_cases a4 : n ≤ 1103
  all_goals first | (exfalso; omega) | skip
  all_goals
    go_wp2
    all_goals first | (exfalso; omega) | skip
    all_goals
      go_ret
      exact ⟨by first | (simp [a1, a2, a3, a4]; done) | (simp [a1, a2, a3, a4]; omega), hw⟩

/-! ### Right -/

/-- What was gone through is the beginning of a name. -/
def Good (done : List Nat) : Prop := match done with | [] => True | r :: rs => isLetter r = true ∧ ∀ x ∈ rs, isLetter x = true ∨ isInner x = true
theorem good_snoc {done : List Nat} {r : Nat} (h : Good done) (hr : isLetter r = true ∨ (done ≠ [] ∧ isInner r = true)) : Good (done ++ [r]) := by
  cases done with
  | nil =>
    rcases hr with hr | ⟨hr, _⟩
    · exact ⟨hr, fun x hx => by cases hx⟩
    · exact absurd rfl hr
  | cons a l =>
    refine ⟨h.1, fun x hx => ?_⟩
    rcases List.mem_append.1 hx with hx | hx
    · exact h.2 x hx
    · rw [List.mem_singleton.1 hx]
      rcases hr with hr | ⟨_, hr⟩
      · exact .inl hr
      · exact .inr hr
theorem right_bad {l : List UInt8} {done rest : List Nat} {r : Nat} (e : runes l = done ++ r :: rest) (hr : isLetter r = false) (hr' : done = [] ∨ isInner r = false) : right l = false := by
  cases h : right l with
  | false => rfl
  | true =>
    obtain ⟨r0, rs, e0, h1, h2, _⟩ := (right_iff l).1 h
    rw [e] at e0
    cases done with
    | nil =>
      injection e0 with e1 _
      rw [← e1, hr] at h1
      simp at h1
    | cons a done =>
      rcases hr' with hr' | hr'
      · simp at hr'
      · injection e0 with _ e2
        have := h2 r (by rw [← e2]; simp)
        rw [hr, hr'] at this
        simp at this
theorem right_done {l : List UInt8} {done : List Nat} (e : runes l = done) (h : Good done) (hne : done ≠ []) (hl : done.length ≤ 16) : right l = true := by
  cases done with
  | nil => exact absurd rfl hne
  | cons a done => exact (right_iff l).2 ⟨a, done, e, h.1, h.2, by simpa using hl⟩

/-- What the text asks of one rune: letter, mark. -/
theorem mark_one (q : ByteArray) (h1 : q.size = 1) (c : Nat) (hc : bt q 0 = c) : (q.toList == [45]) = decide (c = 45) := by
  have hl : q.data.toList.length = 1 := by rw [size_list]; exact h1
  have e : q.data.toList = [q.data.toList.getD 0 0] := by
    match hq : q.data.toList with
    | [] => rw [hq] at hl; simp at hl
    | [x] => rfl
    | x :: y :: z => rw [hq] at hl; simp at hl
  rw [bt_getD] at hc
  rw [Lib.toList_data, e, Bool.eq_iff_iff, beq_iff_eq, decide_eq_true_iff]
  constructor
  · intro h
    have h' : q.data.toList.getD 0 0 = 45 := by simpa using h
    rw [h'] at hc
    have : (45 : UInt8).toNat = 45 := rfl
    omega
  · intro h
    have h' : q.data.toList.getD 0 0 = 45 := UInt8.toNat_inj.1 (show (q.data.toList.getD 0 0).toNat = 45 by omega)
    rw [h']
theorem mark_more (q : ByteArray) (h1 : 2 ≤ q.size) : (q.toList == [45]) = false := by
  rw [beq_eq_false_iff_ne, Lib.toList_data]
  intro h
  have := congrArg List.length h
  rw [size_list] at this
  simp at this
  omega
theorem bt_extract (s : ByteArray) (p n k : Nat) (hk : k < n) : bt (s.extract p (p + n)) k = (((s.data.toList.drop p).getD k 0).toNat : Int) := by
  rw [bt_getD, Lib.extract_data, Nat.add_sub_cancel_left]
  congr 2
  rw [List.getD_eq_getElem?_getD, List.getD_eq_getElem?_getD, List.getElem?_take, if_pos hk]
end Go.Proofs.YtbilkeadhflibaaGreatDoor.Word
