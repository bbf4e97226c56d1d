/- PackFits: there is a fit just if there is room for so many, and it has just so many nodes: the walk, over what the calls say. -/
import Derived.Test.YtbefnophkaepmaaKLawTells
namespace Go.Proofs.Ytbefnophkaepmaa.Pack
open Go.RowKit Go.Proofs.Ytbefnophkaepmaa.Label Go.Proofs.Ytbefnophkaepmaa.Sel Go.Proofs.Ytbefnophkaepmaa.Vec Go.Proofs.Ytbefnophkaepmaa.Texts

theorem fair_all {ls : List Slot} (ts : List Tm) (h : ∀ s ∈ ls, s.ok) : Fair (seenAll ts ls) := by
  intro s hs
  unfold seenAll at hs
  obtain ⟨x, hx, rfl⟩ := List.mem_map.1 hs
  exact fun i hi => ((h x hx).free i hi).1
theorem fit_just {d : V} (hd : Nonneg d) (n : Nat) {l : List Sl} (h : Fair l) : ((fitL d n l).isSome = true ↔ n ≤ roomN d n l) := by
  rw [fit_room hd n h]
  unfold roomN
  omega
theorem nodesOf_length (ls : List Slot) (js : List Nat) : (nodesOf ls js).length = js.length := by unfold nodesOf; simp

set_option maxHeartbeats 4000000 in
set_option maxRecDepth 100000 in
theorem packFits_any (S : Says) (v u : Value) (ls : List Slot) (ts : List Tm) (d : Nat → Int) (n : Int) (w : World) (hv : SlRow w v ls) (hu : TRow w u ts) (hf : Sel.Fair ts) (hd : InRange d) (hz : ls.length * 72 ≤ 140737488355328) (hn : 0 ≤ n ∧ n ≤ 255) :
    Calls Try.prog 4 #[v, u, vec (d 0) (d 1) (d 2) (d 3), .int .u8 n] w fun e w' => e = .returned (.bool true) ∧ Below w.heap.size w w' := by
  obtain ⟨W, hW⟩ : ∃ W, W = w.alloc (boxV d) := ⟨_, rfl⟩
  have hwW : Below w.heap.size w W := by rw [hW]; exact (Below.refl _ _).alloc (Nat.le_refl _) _
  have HB := Lib.hid (fun w' (h : Below W.heap.size W w') => one_boxV w d (w' := w') (by rw [hW] at h; exact h))
  have HV := Lib.hid (fun w' (h : Below W.heap.size W w') => (hv.below hwW).below h)
  have HU := Lib.hid (fun w' (h : Below W.heap.size W w') => (hu.below hwW).below h)
  have HX := Lib.hid (examples_any S W)
  obtain ⟨c, hc⟩ : ∃ c : Nat, (c : Int) = n % 9 := ⟨(n % 9).toNat, by omega⟩
  have hc8 : c ≤ 8 := by omega
  have hcn : (c : Int).toNat = c := rfl
  obtain ⟨r, hr⟩ : ∃ r, fitX d (c : Int) (seenAll ts ls) = r := ⟨_, rfl⟩
  obtain ⟨m, hm⟩ : ∃ m, roomN d c (seenAll ts ls) = m := ⟨_, rfl⟩
  have hrr : fitL d c (seenAll ts ls) = r := by rw [← hr]; unfold fitX; rw [if_neg (by omega)]; rfl
  have hjust : (r.isSome = true ↔ c ≤ m) := by
    rw [← hrr, ← hm]
    exact fit_just (fun i hi => (hd i hi).1) c (fair_all ts hv.ok)
  have hlen : ∀ p, r = some p → (nodesOf ls p.1).length = c := fun p hp => by
    rw [nodesOf_length]
    exact (fit_length (js := p.1) (r := p.2) (hrr.trans hp)).1
  have CFit := Lib.hid (fun w' (h : Below W.heap.size W w') => (by have := S.fit v u ls ts d (c : Int) w' (HV.out w' h) (HU.out w' h) hf hd hz (by omega); rw [hr] at this; exact this : Calls Try.prog 10 #[v, u, vec (d 0) (d 1) (d 2) (d 3), .int .i64 (c : Int)] w' fun e w'' => FitTold ls r e w'' ∧ Below w'.heap.size w' w''))
  have CRoom := Lib.hid (fun w' (h : Below W.heap.size W w') => (by have := S.room v u ls ts d (c : Int) w' (HV.out w' h) (HU.out w' h) hf hd hz (by omega); rw [hcn, hm] at this; exact this : Calls Try.prog 16 #[v, u, vec (d 0) (d 1) (d 2) (d 3), .int .i64 (c : Int)] w' fun e w'' => e = .returned (.int .i64 (m : Int)) ∧ Below w'.heap.size w' w''))
  have HW := Lib.hid hW
  unfold vec at CFit CRoom
  unfold vec
  unfold boxV at HW
  clear hv hu hf hd hz hr hm hrr hW S hcn
  go_enter Try.func4, Try.ntmps4
  go_upto_region 1 with fail
  rw [← HW.out]
  clear HW
  go_wp2_with fail
  (with_reducible refine HX.out.mono ?_)
  rintro _ w1 ⟨rfl, b1⟩
  have H1 := Lib.hid b1
  obtain ⟨c0, c1, c2, c3⟩ := HB.out _ b1
  clear HX b1
  go_wp2_with fail
  rw [← hc]
  clear hc
  (with_reducible refine (CFit.out _ H1.out).mono ?_)
  rintro _ w2 ⟨hf1, b2⟩
  have b3 := H1.out.trans (b2.mono H1.out.size)
  clear c0 c1 c2 c3 b2 CFit
  obtain ⟨c0, c1, c2, c3⟩ := HB.out _ b3
  cases r with
  | none =>
    have hcm : m < c := by
      rcases Nat.lt_or_ge m c with h | h
      · exact h
      · exact absurd (hjust.2 h) (by simp)
    have hge : decide ((c : Int) ≤ (m : Int)) = false := decide_eq_false (by omega)
    have hge2 : decide ((m : Int) ≥ (c : Int)) = false := decide_eq_false (by omega)
    have hge3 : ¬ (c : Int) ≤ (m : Int) := by omega
    have hge4 : decide (c ≤ m) = false := decide_eq_false (by omega)
    obtain rfl : _ = _ := hf1
    clear hjust hlen hn hc8 hcm
    go_wp2_with fail
    (with_reducible refine (CRoom.out _ b3).mono ?_)
    rintro _ w3 ⟨rfl, b4⟩
    have H4 := Lib.hid (hwW.trans ((b3.trans (b4.mono b3.size)).mono hwW.size))
    clear b3 b4 c0 c1 c2 c3
    go_wp2
    go_ret
    exact ⟨rfl, H4.out⟩
  | some p =>
    have hcm : c ≤ m := hjust.1 rfl
    have hge : decide ((c : Int) ≤ (m : Int)) = true := decide_eq_true (by omega)
    have hge2 : decide ((m : Int) ≥ (c : Int)) = true := decide_eq_true (by omega)
    have hge4 : decide (c ≤ m) = true := decide_eq_true hcm
    obtain ⟨o, rfl, hso⟩ := hf1
    obtain ⟨oa, oc, rfl, _, _⟩ := hso.slice
    rw [hlen p rfl]
    clear hjust hlen hn hc8 hcm hso
    go_wp2_with fail
    (with_reducible refine (CRoom.out _ b3).mono ?_)
    rintro _ w3 ⟨rfl, b4⟩
    have H4 := Lib.hid (hwW.trans ((b3.trans (b4.mono b3.size)).mono hwW.size))
    clear b3 b4 c0 c1 c2 c3
    go_wp2
    go_ret
    exact ⟨rfl, H4.out⟩
end Go.Proofs.Ytbefnophkaepmaa.Pack
