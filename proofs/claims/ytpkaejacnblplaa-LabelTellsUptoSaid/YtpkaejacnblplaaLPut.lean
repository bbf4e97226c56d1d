/- What label.Put answers of any labels; of memory that was there nothing turns. -/
import Derived.Test.YtpkaejacnblplaaLParse
import Derived.Test.YtpkaejacnblplaaText
import Derived.Deep.RegionHeld3
namespace Go.Proofs.Ytpkaejacnblplaa.Label
open Go.RowKit Go.Proofs.Ytpkaejacnblplaa.Word

/-- A text's form: P1.2. -/
def textB (t : ByteArray) : ByteArray := Wire.str (Wire.putL t.size) ++ t
def putAcc (a : ByteArray) (ls : List Pr) : ByteArray := ls.foldl (fun a x => a ++ (textB x.1 ++ textB x.2)) a
/-- The form of labels: P4.2. -/
def putP (ls : List Pr) : ByteArray := if rightL ls = true then putAcc (Wire.str (Wire.putL ls.length)) ls else ⟨#[]⟩

theorem textB_size (t : ByteArray) (h : t.size ≤ 32) : (textB t).size ≤ 42 := by
  unfold textB
  rw [ByteArray.size_append, Wire.str_size]
  have := Wire.putL_ten (u := t.size) (by omega)
  omega
theorem lacks_size {x : Pr} (h : lacks x = false) : x.1.size ≤ 32 ∧ x.2.size ≤ 32 := by
  unfold lacks at h
  rw [Bool.or_eq_false_iff, Bool.not_eq_false', Bool.not_eq_false'] at h
  rw [← size_list, ← size_list]
  exact ⟨(right_free h.1).2, (right_free h.2).2⟩
theorem rightL_parts {ls : List Pr} (h : rightL ls = true) : ls.length ≤ 8 ∧ (∀ x ∈ ls, lacks x = false) ∧ Rises ls := by
  unfold rightL at h
  rw [Bool.and_eq_true, Bool.and_eq_true, decide_eq_true_eq, Bool.not_eq_true', risesB_iff] at h
  exact ⟨h.1, fun x hx => by have := List.any_eq_false.1 h.2.1 x hx; simpa using this, h.2.2⟩
theorem putAcc_snoc (a : ByteArray) (ls : List Pr) (x : Pr) : putAcc a (ls ++ [x]) = putAcc a ls ++ (textB x.1 ++ textB x.2) := by unfold putAcc; rw [List.foldl_append]; rfl
theorem putAcc_size (a : ByteArray) : ∀ (ls : List Pr), (∀ x ∈ ls, lacks x = false) → (putAcc a ls).size ≤ a.size + 84 * ls.length := by
  intro ls
  induction ls generalizing a with
  | nil => intro _; simp [putAcc]
  | cons x r ih =>
    intro h
    have hx := lacks_size (h x (List.mem_cons_self ..))
    have h1 := textB_size x.1 hx.1
    have h2 := textB_size x.2 hx.2
    have := ih (a ++ (textB x.1 ++ textB x.2)) (fun y hy => h y (List.mem_cons_of_mem _ hy))
    rw [ByteArray.size_append, ByteArray.size_append] at this
    rw [List.length_cons]
    show (putAcc (a ++ (textB x.1 ++ textB x.2)) r).size ≤ _
    omega

set_option maxHeartbeats 2000000 in
set_option maxRecDepth 100000 in
theorem put_rows (v : Value) (ls : List Pr) (w : World) (hv : Row w v ls) (hl : ls.length ≤ 4611686018427387904) :
    Calls Try.prog 20 #[v] w fun e w' => e = .returned (.string (putP ls)) ∧ Below w.heap.size w w' := by
  have HR := Lib.hid (right_rows v ls w hv hl)
  obtain ⟨q, hq⟩ : ∃ q, rightL ls = q := ⟨_, rfl⟩
  rw [hq] at HR
  have HV := Lib.hid hv
  have hs : ∃ a cap, v = .slice a ls.length cap := by
    rcases hv with ⟨rfl, a, cap, rfl, _⟩ | ⟨_, g, o, cap, rfl, _⟩
    · exact ⟨_, _, rfl⟩
    · exact ⟨_, _, rfl⟩
  obtain ⟨a, cap, rfl⟩ := hs
  clear hv
  cases q with
  | false =>
    have HE : Hid (putP ls = ⟨#[]⟩) := Lib.hid (by unfold putP; rw [if_neg (by rw [hq]; simp)])
    clear hq
    go_enter Try.func20, Try.ntmps20
    go_wp2_with fail
    refine HR.out.mono ?_
    rintro e w1 ⟨rfl, hb⟩
    go_wp2
    go_ret
    exact ⟨by rw [HE.out]; rfl, hb⟩
  | true =>
    obtain ⟨h8, hnames, _⟩ := rightL_parts hq
    have HN := Lib.hid hnames
    have HE : Hid (putP ls = putAcc (Wire.str (Wire.putL ls.length)) ls) := Lib.hid (by unfold putP; rw [if_pos hq])
    have hten : (Wire.str (Wire.putL ls.length)).size ≤ 10 := by rw [Wire.str_size]; exact Wire.putL_ten (by omega)
    have HPu := Lib.hid (Wire.put_any ls.length (by omega))
    obtain ⟨c0, hc0⟩ : ∃ c0, c0 = Wire.str (Wire.putL ls.length) := ⟨_, rfl⟩
    rw [← hc0] at HE hten HPu
    clear hq hnames hc0
    go_enter Try.func20, Try.ntmps20
    go_wp2_with fail
    refine HR.out.mono ?_
    rintro e w1 ⟨rfl, hb⟩
    go_wp2_with fail
    refine (HPu.out _).mono ?_
    rintro e w2 ⟨rfl, hb2⟩
    have hb' := hb.trans (hb2.mono hb.size)
    have HV2 := Lib.hid (HV.out.below hb')
    clear hb hb2
    go_wp2_with fail
    go_loopw [2, 14] (fun t i wr => ∃ k : Nat, k ≤ ls.length ∧ i = .int .i64 k ∧ t = .string (putAcc c0 (ls.take k)) ∧ Below w2.heap.size w2 wr) (fun _ i _ => ls.length - (intOf i).toNat)
    case atStart => exact ⟨0, Nat.zero_le _, rfl, rfl, Below.refl _ _⟩
    case round =>
      obtain ⟨k, hk, rfl, rfl, hbr⟩ := hrel
      by_cases hlt : k < ls.length
      · have hltz : (k : Int) < (ls.length : Int) := by omega
        rcases HV2.out with ⟨h, _⟩ | ⟨hne, g, o, cap', hsl, hg, hcap, hm, hcell⟩
        · rw [h] at hlt; simp at hlt
        obtain ⟨rfl, rfl⟩ : a = some ⟨g, o, none⟩ ∧ cap = cap' := by injection hsl with h1 _ h2; exact ⟨h1, h2⟩
        obtain ⟨x, hx⟩ : ∃ x, ls[k]? = some x := ⟨_, List.getElem?_eq_getElem hlt⟩
        obtain ⟨c1, c2⟩ := hcell.below hg hbr k x hx
        have hsz := lacks_size (HN.out x (List.mem_of_getElem? hx))
        have HT : Hid (ls.take (k + 1) = ls.take k ++ [x]) := Lib.hid (by rw [List.take_add_one, hx]; rfl)
        have h1 := textB_size x.1 hsz.1
        have h2 := textB_size x.2 hsz.2
        have hacc := putAcc_size c0 (ls.take k) (fun y hy => HN.out y (List.mem_of_mem_take hy))
        have htk := List.length_take_le k ls
        have HP1 := Lib.hid (Wire.putText_any x.1 (by omega))
        have HP2 := Lib.hid (Wire.putText_any x.2 (by omega))
        obtain ⟨acc, hac⟩ : ∃ acc, acc = putAcc c0 (ls.take k) := ⟨_, rfl⟩
        have HAC := Lib.hid hac
        rw [← hac] at hacc ⊢
        have ha6 : acc.size ≤ 700 := by omega
        obtain ⟨x1, x2⟩ := x
        have HX : Hid (putAcc c0 (ls.take (k + 1)) = acc ++ (textB x1 ++ textB x2)) := Lib.hid (by rw [HT.out, putAcc_snoc, hac])
        obtain ⟨t1, ht1⟩ : ∃ t1, t1 = textB x1 := ⟨_, rfl⟩
        obtain ⟨t2, ht2⟩ : ∃ t2, t2 = textB x2 := ⟨_, rfl⟩
        change Hid (∀ w, Calls Try.prog _ _ w fun e w' => e = .returned (.string (textB x1)) ∧ _) at HP1
        change Hid (∀ w, Calls Try.prog _ _ w fun e w' => e = .returned (.string (textB x2)) ∧ _) at HP2
        rw [← ht1] at HP1 h1
        rw [← ht2] at HP2 h2
        rw [← ht1, ← ht2] at HX
        clear hac hacc htk hx hsz ht1 ht2 HT hcell hne hsl
        go_wp2_with fail
        have hbW : Below w2.heap.size w2 (wr.alloc (.cells #[.string x1, .string x2] 48)) := hbr.alloc hbr.size _
        obtain ⟨d1, d2⟩ := two_cells (heap_alloc_new wr (.cells #[.string x1, .string x2] 48))
        obtain ⟨W, hW⟩ : ∃ W, W = wr.alloc (.cells #[.string x1, .string x2] 48) := ⟨_, rfl⟩
        obtain ⟨B, hB⟩ : ∃ B, B = wr.heap.size := ⟨_, rfl⟩
        rw [← hW] at hbW d1 d2 ⊢
        rw [← hB] at d1 d2 ⊢
        have hBl : B < W.heap.size := World.block_lt_of_cell? W ⟨B, 0, none⟩ d1
        have hs0 : Below W.heap.size W W.drew := (Below.refl _ _).drew
        have hsum1 : ¬ (9223372036854775807 < t1.size + t2.size) := by omega
        have hsum2 : ¬ (9223372036854775807 < acc.size + (t1.size + t2.size)) := by omega
        have hadd1 : ∀ w, Sem.run Try.prog (Op.stringOp .add t1 t2) w = .ok (.string (t1 ++ t2)) w := fun w => run_string_add_sum w t1 t2 (by omega)
        have hadd2 : ∀ w, Sem.run Try.prog (Op.stringOp .add acc (t1 ++ t2)) w = .ok (.string (acc ++ (t1 ++ t2))) w := fun w => run_string_add_sum w acc _ (by rw [ByteArray.size_append]; omega)
        clear hW hB c1 c2 hbr
        go_region_held3 (fun x => x.cell? ⟨B, 0, none⟩ = some (.string x1) ∧ x.cell? ⟨B, 1, none⟩ = some (.string x2) ∧ Below W.heap.size W x)
          (first | exact ⟨d1, d2, hs0⟩ | exact ⟨d1, d2, (Below.refl _ _)⟩ | (refine ⟨?_, ?_, ?_⟩ <;> assumption))
          (first
            | (go_at_call 43; (with_reducible refine (HP1.out _).mono ?_); rintro e w5 ⟨rfl, hb5⟩; have hq5 : Below W.heap.size W w5 := hs0.trans (hb5.mono hs0.size); have q1 := (hq5.cell (p := ⟨B, 0, none⟩) hBl).trans d1; have q2 := (hq5.cell (p := ⟨B, 1, none⟩) hBl).trans d2)
            | (go_at_call 43; (with_reducible refine (HP2.out _).mono ?_); rintro e w6 ⟨rfl, hb6⟩; have hq6 : Below W.heap.size W w6 := hq5.trans (hb6.mono hq5.size); have q3 := (hq6.cell (p := ⟨B, 0, none⟩) hBl).trans d1; have q4 := (hq6.cell (p := ⟨B, 1, none⟩) hBl).trans d2))
        all_goals
          go_wp2
          go_roundw
          case rel => exact ⟨k + 1, by omega, by go_num, by rw [HX.out], hbW.trans (hq6.mono hbW.size)⟩
          case measure => simp [intOf]; omega
      · have hltz : ¬ ((k : Int) < (ls.length : Int)) := by omega
        go_wp2
        go_ret
        refine ⟨?_, hb'.trans (hbr.mono hb'.size)⟩
        rw [HE.out, List.take_of_length_le (by omega)]
        rfl
end Go.Proofs.Ytpkaejacnblplaa.Label
