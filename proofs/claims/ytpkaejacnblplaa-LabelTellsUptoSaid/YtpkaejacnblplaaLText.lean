/- What label.Text answers of any labels; of memory that was there nothing turns. -/
import Derived.Test.YtpkaejacnblplaaLPut
namespace Go.Proofs.Ytpkaejacnblplaa.Label
open Go.RowKit Go.Proofs.Ytpkaejacnblplaa.Word

/-- A pair as it is shown. -/
def piece (x : Pr) : ByteArray := x.1 ++ ⟨#[61]⟩ ++ x.2
/-- Labels as they are shown: P4.2. -/
def textP (ls : List Pr) : ByteArray :=
  if rightL ls = true then (if ls = [] then ⟨#[45]⟩ else ⟨(Lib.join (ls.map fun x => (piece x).data.toList) [44]).toArray⟩) else ⟨#[63]⟩
def pvals (ls : List Pr) : List Value := ls.map fun x => .string (piece x)

theorem piece_size (x : Pr) (h : lacks x = false) : (piece x).size ≤ 65 := by
  have := lacks_size h
  unfold piece
  rw [ByteArray.size_append, ByteArray.size_append]
  show x.1.size + 1 + x.2.size ≤ 65
  omega
theorem join_len : ∀ (l : List (List UInt8)), (∀ a ∈ l, a.length ≤ 65) → (Lib.join l [44]).length ≤ 66 * l.length
  | [], _ => by simp [Lib.join, List.intercalate]
  | [a], h => by have := h a (List.mem_cons_self ..); simp [Lib.join, List.intercalate]; omega
  | a :: b :: r, h => by
    have h1 := h a (List.mem_cons_self ..)
    have h2 := join_len (b :: r) (fun y hy => h y (List.mem_cons_of_mem _ hy))
    have e : Lib.join (a :: b :: r) [44] = a ++ [44] ++ Lib.join (b :: r) [44] := by simp [Lib.join, List.intercalate, List.intersperse]
    rw [e]
    simp at h2 ⊢
    omega
theorem infoS : (Try.prog.info? 9).map (fun i => (i.zero, i.size, i.bytes)) = some (some (.string ByteArray.empty), 1, 16) := by kernel_rfl

set_option maxHeartbeats 2000000 in
set_option maxRecDepth 100000 in
theorem text_rows (v : Value) (ls : List Pr) (w : World) (hv : Row w v ls) (hl : ls.length ≤ 4611686018427387904) :
    Calls Try.prog 22 #[v] w fun e w' => e = .returned (.string (textP ls)) ∧ Below w.heap.size w w' := by
  obtain ⟨i0, hi, hz0, hz1, hz2⟩ := info_parts infoS
  have HR := Lib.hid (right_rows v ls w hv hl)
  obtain ⟨q, hq⟩ : ∃ q, rightL ls = q := ⟨_, rfl⟩
  rw [hq] at HR
  have HV := Lib.hid hv
  have hs : ∃ a cap, v = .slice a ls.length cap := by
    rcases hv with ⟨rfl, a, cap, rfl, _⟩ | ⟨_, g, o, cap, rfl, _⟩
    · exact ⟨_, _, rfl⟩
    · exact ⟨_, _, rfl⟩
  obtain ⟨a, cap, rfl⟩ := hs
  clear hv
  cases q with
  | false =>
    have HE : Hid (textP ls = ⟨#[63]⟩) := Lib.hid (by unfold textP; rw [if_neg (by rw [hq]; simp)])
    clear hq
    go_enter Try.func22, Try.ntmps22
    go_wp2_with fail
    refine HR.out.mono ?_
    rintro e w1 ⟨rfl, hb⟩
    go_wp2
    go_ret
    exact ⟨by rw [HE.out]; rfl, hb⟩
  | true =>
    by_cases h0 : ls = []
    · subst h0
      have HE : Hid (textP [] = ⟨#[45]⟩) := Lib.hid rfl
      go_enter Try.func22, Try.ntmps22
      go_wp2_with fail
      refine HR.out.mono ?_
      rintro e w1 ⟨rfl, hb⟩
      go_wp2
      go_ret
      exact ⟨by rw [HE.out]; rfl, hb⟩
    · obtain ⟨h8, hnames, _⟩ := rightL_parts hq
      have HN := Lib.hid hnames
      have HE : Hid (textP ls = ⟨(Lib.join (ls.map fun x => (piece x).data.toList) [44]).toArray⟩) := Lib.hid (by unfold textP; rw [if_pos hq, if_neg h0])
      have hlen := List.length_pos_iff.2 h0
      have hn0 : ((ls.length : Int) == 0) = false := by rw [beq_eq_false_iff_ne]; omega
      clear hq hnames
      obtain ⟨g, o, hg0, hcell0⟩ : ∃ g o, a = some ⟨g, o, none⟩ ∧ g < w.heap.size ∧ Cells w g o ls := by
        rcases HV.out with ⟨h, _⟩ | ⟨_, g, o, cap', hsl, hg, _, _, hcell⟩
        · exact absurd h h0
        · injection hsl with h1 _ _; exact ⟨g, o, h1, hg, hcell⟩
      subst hg0
      obtain ⟨hg, hcell⟩ := hcell0
      have HC := Lib.hid hcell
      clear hcell h0
      go_enter Try.func22, Try.ntmps22
      go_wp2_with fail
      refine HR.out.mono ?_
      rintro e w1 ⟨rfl, hb⟩
      have HC1 := Lib.hid (HC.out.below hg hb)
      have hg1 : g < w1.heap.size := Nat.lt_of_lt_of_le hg hb.size
      go_wp2_with fail
      go_loopw [3, 14] (fun t i wr => ∃ k : Nat, k ≤ ls.length ∧ i = .int .i64 k ∧ wr.ownsRow w1.heap.size 9 1 t k (pvals (ls.take k)) ∧ Below w1.heap.size w1 wr) (fun _ i _ => ls.length - (intOf i).toNat)
      case atStart => exact ⟨0, Nat.zero_le _, rfl, World.ownsRow_nil _ _ _ _, Below.refl _ _⟩
      case round =>
        obtain ⟨k, hk, rfl, hown, hbr⟩ := hrel
        by_cases hlt : k < ls.length
        · have hltz : (k : Int) < (ls.length : Int) := by omega
          obtain ⟨x, hx⟩ : ∃ x, ls[k]? = some x := ⟨_, List.getElem?_eq_getElem hlt⟩
          obtain ⟨c1, c2⟩ := HC1.out.below hg1 hbr k x hx
          have hsz := lacks_size (HN.out x (List.mem_of_getElem? hx))
          have HT : Hid (ls.take (k + 1) = ls.take k ++ [x]) := Lib.hid (by rw [List.take_add_one, hx]; rfl)
          obtain ⟨x1, x2⟩ := x
          have hsz1 : x1.size ≤ 32 := hsz.1
          have hsz2 : x2.size ≤ 32 := hsz.2
          have hadd1 : ∀ w, Sem.run Try.prog (Op.stringOp .add x1 ⟨#[61]⟩) w = .ok (.string (x1 ++ ⟨#[61]⟩)) w := fun w => run_string_add_sum w x1 _ (by show x1.size + 1 ≤ _; omega)
          have hadd2 : ∀ w, Sem.run Try.prog (Op.stringOp .add (x1 ++ ⟨#[61]⟩) x2) w = .ok (.string (x1 ++ ⟨#[61]⟩ ++ x2)) w := fun w => run_string_add_sum w _ x2 (by rw [ByteArray.size_append]; show x1.size + 1 + x2.size ≤ _; omega)
          clear hsz hx
          have hbA : Below w1.heap.size w1 (wr.alloc (.cells #[.string x1, .string x2] 48)) := hbr.alloc hbr.size _
          have hownA := hown.alloc (.cells #[.string x1, .string x2] 48)
          go_wp2_with (at_builtin; refine wpList_append_own _ rfl _ _ 67 rfl w1.heap.size 9 i0 (.string ByteArray.empty) 1 16 Try.underlying67 hi hz0 hz1 hz2 rfl (by decide) _ _ _ rfl (hownA.alloc _) ⟨wr.heap.size + 1, 0, none⟩ 1 1 [.string (x1 ++ ⟨#[61]⟩ ++ x2)] rfl rfl ?c1 ?c2 ?c3 ?c4 ?c5 ?_)
          case c2 => first | rfl | (intro u hu; simp at hu; subst hu; rfl)
          case c3 => unfold maxLen; omega
          case c4 => omega
          case c5 => have := hbA.size; simp at this ⊢; omega
          intro v' w4 hown' hgrow _
          have hown4 : w4.ownsRow w1.heap.size 9 1 v' (k + 1) (pvals (ls.take (k + 1))) := by rw [HT.out]; simpa [pvals, piece] using hown'
          have hb4 : Below w1.heap.size w1 w4 := (hbA.alloc hbA.size _).grown hgrow (by have := hbA.size; simp at this ⊢; omega) (fun k hk => (hown.lt k hk).1)
          clear hown hown' hgrow hownA hbA
          go_wp2
          go_roundw
          case rel => exact ⟨k + 1, by omega, by go_num, hown4, hb4⟩
          case measure => simp [intOf]; omega
        · have hkn : k = ls.length := by omega
          have hltz : ¬ ((k : Int) < (ls.length : Int)) := by omega
          have HJ : Hid (∃ G C, u3 = .slice (some ⟨G, 0, none⟩) ls.length C ∧ Calls Try.prog 46 #[.slice (some ⟨G, 0, none⟩) ls.length C, .string ⟨#[44]⟩] wr fun e w' => e = .returned (.string (textP ls)) ∧ Below wr.heap.size wr w') := Lib.hid (by
            rw [hkn, List.take_length] at hown
            have hc := fun g hg => hown.cells (g := g) hg
            rcases hown.2 with ⟨_, hz⟩ | ⟨G, C, cur, rfl, hB, hgg, hcap, _, _, _⟩
            · omega
            · refine ⟨G, C, rfl, ?_⟩
              have hj := Any.strings_Join Laid.lays156 Laid.Builder_Extra_156 G 0 C (ls.map piece) ⟨#[44]⟩ wr (fun j y hy => by
                have e := hc G rfl j (.string y) (by rw [pvals, List.getElem?_map]; rw [List.getElem?_map] at hy; cases h : ls[j]? with | none => rw [h] at hy; simp at hy | some z => rw [h] at hy; simp at hy; subst hy; rfl)
                rwa [Addr.add_lit] at e) (Array.getElem?_eq_some_iff.1 hgg).1 (by rw [List.length_map]; omega) (by rw [List.length_map]; exact hcap)
                (by
                  have := join_len ((ls.map piece).map (·.data.toList)) (fun a ha => by
                    simp only [List.mem_map] at ha
                    obtain ⟨_, ⟨z, hz, rfl⟩, rfl⟩ := ha
                    rw [size_list]
                    exact piece_size z (HN.out z hz))
                  simp only [List.length_map] at this
                  show (Lib.join _ [44]).length ≤ _
                  omega)
              rw [List.length_map, List.map_map] at hj
              rw [HE.out]
              exact hj)
          clear hown hkn
          obtain ⟨G, C, rfl, hj⟩ := HJ.out
          have HJ2 := Lib.hid hj
          clear hj HJ
          go_wp2_with fail
          refine HJ2.out.mono ?_
          rintro e w5 ⟨rfl, hb5⟩
          have hbz := hb.trans (hbr.mono hb.size)
          go_wp2
          go_ret
          exact ⟨rfl, hbz.trans (hb5.mono hbz.size)⟩
end Go.Proofs.Ytpkaejacnblplaa.Label
