/- QueueRight: a queue that is right stays so, whoever comes and goes: the walk, over what the calls say. -/
import Derived.Test.YtimaehaaidjokaaUIds
namespace Go.Proofs.Ytimaehaaidjokaa.Queue
open Go.RowKit

theorem gone_len {q : List E} (h : q.length ≤ 32) (g : List Nat) : (goneL q g).length ≤ 32 := by
  unfold goneL
  induction g generalizing q with
  | nil => exact h
  | cons i g ih =>
    refine ih ?_
    show (takeL q i).1.length ≤ 32
    unfold takeL
    split
    · exact Nat.le_trans (remL_le _ _) h
    · exact h

set_option maxHeartbeats 2000000 in
set_option maxRecDepth 100000 in
theorem queueRight_any (S : Says) (v u : Value) (ls : List E) (gs : List Nat) (w : World) (hv : Row w v ls) (hu : IRow w u gs) :
    Calls Try.prog 4 #[v, u] w fun e w' => e = .returned (.bool true) ∧ Below w.heap.size w w' := by
  have hgl := hu.len
  obtain ⟨ga, gc, rfl, _, _⟩ := hu.slice
  have HV := Lib.hid hv
  have HG := Lib.hid hu
  have HS := Lib.hid S
  have hX := Lib.hid (examples_any S w)
  clear hv hu S
  go_enter Try.func4, Try.ntmps4
  go_wp2_with fail
  (with_reducible refine hX.out.mono ?_)
  rintro _ w1 ⟨rfl, b1⟩
  have HP := Lib.hid (pushed_rows HS.out v ls w1 (HV.out.below b1))
  go_wp2_with fail
  (with_reducible refine HP.out.mono ?_)
  rintro _ w2 ⟨⟨q0, rfl, hq⟩, b2⟩
  have hR := pushed_right right_nil ls
  obtain ⟨Q, hQ⟩ : ∃ Q, Q = pushedL [] ls := ⟨_, rfl⟩
  rw [← hQ] at hq hR
  have b12 := b1.trans (b2.mono b1.size)
  have HR := Lib.hid hR
  have HQ := Lib.hid hq
  have HGt := Lib.hid (HS.out.right q0 Q w2 hq)
  rw [(rightB_iff Q).2 hR] at HGt
  clear hR hQ hq HP b1 b2 hX HV
  go_wp2_with fail
  (with_reducible refine HGt.out.mono ?_)
  rintro _ w3 ⟨rfl, b3⟩
  have b13 := b12.trans (b3.mono b12.size)
  have HQ3 := Lib.hid (HQ.out.below b3)
  have HG3 := Lib.hid (HG.out.below b13)
  clear HGt HQ HG b12 b3
  go_wp2
  go_loopw [6, 7] (fun q t wr => ∃ k : Nat, k ≤ gs.length ∧ t = .int .i64 k ∧ Row wr q (goneL Q (gs.take k)) ∧ Below w3.heap.size w3 wr) (fun _ t _ => gs.length - (intOf t).toNat)
  case atStart => exact ⟨0, Nat.zero_le _, rfl, HQ3.out, Below.refl _ _⟩
  case round =>
    obtain ⟨k, hk, rfl, hr, hb⟩ := hrel
    by_cases hlt : k < gs.length
    · have hltz : (k : Int) < (gs.length : Int) := by omega
      have hk0 : (0 : Int) ≤ (k : Int) := by omega
      obtain ⟨g, o, rfl, hg, hc⟩ := HG3.out.cells hlt
      obtain ⟨x, hx⟩ : ∃ x, gs[k]? = some x := ⟨_, List.getElem?_eq_getElem hlt⟩
      obtain ⟨hw, x0⟩ := hc.below hg hb k x hx
      have HP := Lib.hid (HS.out.take _ _ x wr hr hw (Nat.le_trans (gone_len HR.out.few _) (by omega)))
      have HT : Hid ((takeL (goneL Q (gs.take k)) x).1 = goneL Q (gs.take (k + 1))) := Lib.hid (goneL_take hx).symm
      clear hx hc hr hw
      go_wp2_with fail
      (with_reducible refine HP.out.mono ?_)
      rintro _ wq ⟨⟨u, rfl, hu⟩, hbq⟩
      rw [HT.out] at hu
      have hb4 := hb.trans (hbq.mono hb.size)
      have HU := Lib.hid hu
      have HGt := Lib.hid (HS.out.right u _ wq hu)
      rw [(rightB_iff _).2 (gone_right HR.out _)] at HGt
      clear hu HP x0
      go_wp2_with fail
      (with_reducible refine HGt.out.mono ?_)
      rintro _ w5 ⟨rfl, b5⟩
      clear HGt
      go_wp2
      go_roundw
      case rel => exact ⟨k + 1, by omega, by go_num, HU.out.below b5, hb4.trans (b5.mono hb4.size)⟩
      case measure => simp [intOf]; omega
    · have hltz : ¬ (k : Int) < (gs.length : Int) := by omega
      clear hr
      go_wp2
      go_ret
      exact ⟨rfl, b13.trans (hb.mono b13.size)⟩
end Go.Proofs.Ytimaehaaidjokaa.Queue
