/- What label.Get answers of every text and place; of memory that was there nothing turns. -/
import Derived.Test.YtpkaejacnblplaaLGet
namespace Go.Proofs.Ytpkaejacnblplaa.Label
open Go.RowKit Go.Proofs.Ytpkaejacnblplaa.Word

def keepBoth : Option (List Pr × Int) → Option (List Pr × Int)
  | none => none
  | some x => if rightL x.1 = true then some x else none
/-- The labels whose form stands at a place, and the place behind: P4.2. -/
def getL (s : ByteArray) (p : Int) : Option (List Pr × Int) :=
  match Wire.getV s.data.toList p with
  | none => none
  | some a => if 8 < a.1 then none else keepBoth (readN (oneGet s) a.1 a.2)
/-- What Get tells. -/
def TellsG (r : Option (List Pr × Int)) (w : World) (e : Ending) (w' : World) : Prop :=
  (match r with
    | some x => ∃ v, e = .returned (.tuple #[v, .int .i64 x.2, .bool true]) ∧ Row w' v x.1
    | none => e = .returned (.tuple #[.slice none 0 0, .int .i64 0, .bool false])) ∧ Below w.heap.size w w'
theorem enters_get (args : Array Value) (w : World) : (callFunc 29 args).run Try.prog w = .ok (.enter 29 args) w := by kernel_rfl

set_option maxHeartbeats 2000000 in
set_option maxRecDepth 100000 in
theorem get_rows (s : ByteArray) (hs : s.size ≤ 9223372036854775807) (p : Int) (w : World) :
    Calls Try.prog 13 #[.string s, .int .i64 p] w (TellsG (getL s p) w) := by
  have hmf : ∀ (fn : Fn) (first cap : Array Value) (w : World), (Instr.makeFunc fn first cap).run Try.prog w = .ok (.func fn first cap) w := fun _ _ _ _ => rfl
  have hb0 : Below w.heap.size w (w.alloc (.cells #[.string s] 9)) := (Below.refl _ _).alloc (Nat.le_refl _) _
  have hc0 : (w.alloc (.cells #[.string s] 9)).cell? ⟨w.heap.size, 0, none⟩ = some (.string s) := by
    have h : (w.alloc (.cells #[.string s] 9)).heap[w.heap.size]? = some (.cells #[.string s] 9) := heap_alloc_new _ _
    simp only [World.cell?, h]
    rfl
  obtain ⟨r, hr⟩ : ∃ r, Wire.getV s.data.toList p = r := ⟨_, rfl⟩
  cases r with
  | none =>
    have HT := Lib.hid (Wire.get_no s hs p hr)
    have HE : Hid (getL s p = none) := Lib.hid (by unfold getL; rw [hr])
    clear hr
    go_enter Try.func13, Try.ntmps13
    go_wp2_with fail
    refine (HT.out _).mono ?_
    rintro e w1 ⟨rfl, hb1⟩
    have hb := hb0.trans (hb1.mono hb0.size)
    go_wp2
    go_ret3
    rw [HE.out]
    exact ⟨rfl, hb⟩
  | some a =>
    obtain ⟨n, q⟩ := a
    have hgl := Wire.getV_lt hr
    have hn64 : n < 18446744073709551616 := hgl.1
    have hq : q ≤ s.size := by rw [← Wire.size_list]; exact hgl.2.2.1
    have HT := Lib.hid (Wire.get_yes s hs p n q hr)
    by_cases h8 : 8 < n
    · have h8z : (8 : Int) < (n : Int) := by omega
      have HE : Hid (getL s p = none) := Lib.hid (by unfold getL; rw [hr]; simp only [if_pos h8])
      clear hr hgl
      go_enter Try.func13, Try.ntmps13
      go_wp2_with fail
      refine (HT.out _).mono ?_
      rintro e w1 ⟨rfl, hb1⟩
      have hb := hb0.trans (hb1.mono hb0.size)
      go_wp2
      go_ret3
      rw [HE.out]
      exact ⟨rfl, hb⟩
    · have h8z : ¬ (8 : Int) < (n : Int) := by omega
      obtain ⟨r, hrr⟩ : ∃ r, readN (oneGet s) n (q : Int) = r := ⟨_, rfl⟩
      have HE1 : Hid (getL s p = keepBoth r) := Lib.hid (by unfold getL; rw [hr]; simp only [if_neg h8]; rw [hrr])
      have HLen : Hid (∀ x, r = some x → x.1.length ≤ 8) := Lib.hid fun x hx => by rw [hx] at hrr; rw [readN_len hrr]; omega
      have HR : Hid (∀ w1, w1.cell? ⟨w.heap.size, 0, none⟩ = some (.string s) → Calls Try.prog 28 #[.int .i64 (n : Int), .int .i64 (q : Int), .func (.func 29) #[] #[.pointer (some ⟨w.heap.size, 0, none⟩)]] w1 (TellsAll (Value.int .i64) r w1)) := Lib.hid fun w1 hc => by
        rw [← hrr]
        refine readAll_int (Value.int .i64) (oneGet s) 29 #[.pointer (some ⟨w.heap.size, 0, none⟩)] n (by omega) (q : Int) w1 enters_get (fun _ => True) trivial (fun _ _ _ _ _ => trivial) (fun p' w' _ hbw => ?_)
        refine getClos_any s hs p' w.heap.size w' ?_
        rw [hbw.cell (p := ⟨w.heap.size, 0, none⟩) (World.block_lt_of_cell? w1 ⟨w.heap.size, 0, none⟩ hc)]
        exact hc
      clear hr hrr hgl
      cases r with
      | none =>
        have HE : Hid (getL s p = none) := Lib.hid (by rw [HE1.out]; rfl)
        clear HE1
        go_enter Try.func13, Try.ntmps13
        go_wp2_with fail
        refine (HT.out _).mono ?_
        rintro e w1 ⟨rfl, hb1⟩
        have hb := hb0.trans (hb1.mono hb0.size)
        have hc1 := (hb1.cell (p := ⟨w.heap.size, 0, none⟩) (by simp)).trans hc0
        go_wp2_with fail
        refine (HR.out _ hc1).mono ?_
        rintro e w2 ⟨⟨z, rfl⟩, hb2⟩
        have hb' := hb.trans (hb2.mono hb.size)
        go_wp2
        go_ret3
        rw [HE.out]
        exact ⟨rfl, hb'⟩
      | some x =>
        go_enter Try.func13, Try.ntmps13
        go_wp2_with fail
        refine (HT.out _).mono ?_
        rintro e w1 ⟨rfl, hb1⟩
        have hb := hb0.trans (hb1.mono hb0.size)
        have hc1 := (hb1.cell (p := ⟨w.heap.size, 0, none⟩) (by simp)).trans hc0
        go_wp2_with fail
        refine (HR.out _ hc1).mono ?_
        rintro e w2 ⟨⟨v, rfl, hv⟩, hb2⟩
        have hb' := hb.trans (hb2.mono hb.size)
        have HV := Lib.hid hv
        obtain ⟨g, hg⟩ : ∃ g, rightL x.1 = g := ⟨_, rfl⟩
        have HRt : Hid (Calls Try.prog 18 #[v] w2 fun e w' => e = .returned (.bool g) ∧ Below w2.heap.size w2 w') := Lib.hid (by rw [← hg]; exact right_rows v x.1 w2 hv (by have := HLen.out x rfl; omega))
        have HE2 : Hid (getL s p = if g = true then some x else none) := Lib.hid (by rw [HE1.out, ← hg]; rfl)
        clear hv hg HE1 hb hb1 hb2
        go_wp2_with fail
        refine HRt.out.mono ?_
        rintro e w3 ⟨rfl, hb3⟩
        have hb := hb'.trans (hb3.mono hb'.size)
        have HV3 := Lib.hid (HV.out.below hb3)
        cases g with
        | true =>
          have HE3 : Hid (getL s p = some x) := Lib.hid (by rw [HE2.out, if_pos rfl])
          clear HE2
          go_wp2
          go_ret3
          rw [HE3.out]
          exact ⟨⟨_, rfl, HV3.out⟩, hb⟩
        | false =>
          have HE3 : Hid (getL s p = none) := Lib.hid (by rw [HE2.out, if_neg (by simp)])
          clear HE2
          go_wp2
          go_ret3
          rw [HE3.out]
          exact ⟨rfl, hb⟩
end Go.Proofs.Ytpkaejacnblplaa.Label
