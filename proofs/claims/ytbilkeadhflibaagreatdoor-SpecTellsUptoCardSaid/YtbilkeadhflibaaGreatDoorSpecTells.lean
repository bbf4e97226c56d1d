/-
  demesnelaw11.SpecTells, for every input that a machine can hold: spec tells of every two jobs, bytes and words what the document's own answer tells (the law answers true, and its arguments read as before).
  Conditions: the bulk of what comes in (the statement's second form); what the row lists, tied by the card.
-/
import Derived.Test.YtbilkeadhflibaaGreatDoorYSpecJ
import Derived.Test.YtbilkeadhflibaaGreatDoorJArgs
import Derived.Test.YtbilkeadhflibaaGreatDoorUptoLaid
import Derived.Test.YtbilkeadhflibaaGreatDoorTie
import Derived.Test.YtbilkeadhflibaaGreatDoorCards
import Derived.JoinedCond
import Derived.LaidMore
import Derived.Lay
import Derived.PlainAid
import Derived.SevenTiedAt
import Derived.Stop.Joined
namespace Go.Proofs.YtbilkeadhflibaaGreatDoor.specTells
open Go.RowKit Go.Proofs.YtbilkeadhflibaaGreatDoor.Wire Go.Proofs.YtbilkeadhflibaaGreatDoor.Vec Go.Proofs.YtbilkeadhflibaaGreatDoor.Sel Go.Proofs.YtbilkeadhflibaaGreatDoor.Texts Go.Proofs.YtbilkeadhflibaaGreatDoor.Args Go.Proofs.YtbilkeadhflibaaGreatDoor.Job Go.Proofs.YtbilkeadhflibaaGreatDoor.Forms

def jobG : Option (Jb × Int) → Jb
  | none => nilJ
  | some x => x.1
def placeG : Option (Jb × Int) → Int
  | none => 0
  | some x => x.2
theorem flatJG {r : Option (Jb × Int)} {w : World} {e : Ending} {w' : World} (h : TellsJG r w e w') : (∃ u, e = .returned (.tuple #[valJ (jobG r) u, .int .i64 (placeG r), .bool r.isSome]) ∧ TRow w' u (terms (jobG r))) ∧ Below w.heap.size w w' := by
  obtain ⟨h1, h2⟩ := h
  refine ⟨?_, h2⟩
  cases r with
  | none => exact ⟨_, h1, TRow.nil _⟩
  | some x => obtain ⟨v, h3, h4⟩ := h1; exact ⟨v, h3, h4⟩
def jobP : Option Jb → Jb
  | none => nilJ
  | some x => x
theorem flatJP {r : Option Jb} {w : World} {e : Ending} {w' : World} (h : TellsJP r w e w') : (∃ u, e = .returned (.tuple #[valJ (jobP r) u, .bool r.isSome]) ∧ TRow w' u (terms (jobP r))) ∧ Below w.heap.size w w' := by
  obtain ⟨h1, h2⟩ := h
  refine ⟨?_, h2⟩
  cases r with
  | none => exact ⟨_, h1, TRow.nil _⟩
  | some x => obtain ⟨v, h3, h4⟩ := h1; exact ⟨v, h3, h4⟩
theorem right_get (s : ByteArray) (p : Int) : rightS (terms (jobG (getJ s p))) = true := by
  cases h : getJ s p with
  | none => rfl
  | some x =>
    unfold getJ at h
    split at h
    · cases h
    · split at h
      · rename_i hc
        injection h with h
        subst h
        exact (checkJ_ok.1 hc).2.2.1
      · cases h
theorem right_parse (ws : List ByteArray) : rightS (terms (jobP (parseJ ws))) = true := by
  cases h : parseJ ws with
  | none => rfl
  | some x =>
    unfold parseJ at h
    split at h
    · cases h
    · split at h
      · rename_i hc
        injection h with h
        subst h
        exact (checkJ_ok.1 hc).2.2.1
      · cases h

set_option maxHeartbeats 4000000 in
theorem walk (a : Jb) (u : Value) (fa : FairJ a) (la : (terms a).length ≤ 1048576) (b : Jb) (v : Value) (_fb : FairJ b) (lb : (terms b).length ≤ 1048576) (s : ByteArray) (hs : s.size ≤ 1048576) (p : Int) (_hp1 : -9223372036854775808 ≤ p) (_hp2 : p ≤ 9223372036854775807)
    (wv : Value) (ws : List ByteArray) (_hl : ws.length ≤ 1048576) (hz : ∀ x ∈ ws, x.size ≤ 1048576) (w : World) (hR : Roots w) (hu : TRow w u (terms a)) (hv : TRow w v (terms b)) (hw : SRow w wv ws) :
    Calls Tryz.prog 3 #[valJ a u, valJ b v, .string s, .int .i64 p, wv] w fun e w' => e = .returned (.bool true) ∧ Below w.heap.size w w' := by
  have hrX := right_get s p
  have hrY := right_parse ws
  have hfX := fair_right hrX
  have hfY := fair_right hrY
  have hlX : (terms (jobG (getJ s p))).length ≤ 1048576 := by have := (rightS_parts hrX).1; omega
  have hlY : (terms (jobP (parseJ ws))).length ≤ 1048576 := by have := (rightS_parts hrY).1; omega
  have hG : ∀ W, Below w.heap.size w W → Calls Tryz.prog 13 #[.string s, .int .i64 p] W fun e w' => (∃ u, e = .returned (.tuple #[valJ (jobG (getJ s p)) u, .int .i64 (placeG (getJ s p)), .bool (getJ s p).isSome]) ∧ TRow w' u (terms (jobG (getJ s p)))) ∧ Below W.heap.size W w' := fun W h => (get_jb s (by omega) p W (hR.err.below h)).mono fun e w' h => flatJG h
  have hGr : ∀ W, Calls Tryz.prog 14 #[.string s, .int .i64 p] W fun e w' => (∃ u, e = .returned (.tuple #[valJ (jobG (getJ s p)) u, .int .i64 (placeG (getJ s p)), .bool (getJ s p).isSome]) ∧ TRow w' u (terms (jobG (getJ s p)))) ∧ Below W.heap.size W w' := fun W => (refGetJ_any s hs p W).mono fun e w' h => flatJG h
  have hP : ∀ W, Below w.heap.size w W → Calls Tryz.prog 15 #[wv] W fun e w' => (∃ u, e = .returned (.tuple #[valJ (jobP (parseJ ws)) u, .bool (parseJ ws).isSome]) ∧ TRow w' u (terms (jobP (parseJ ws)))) ∧ Below W.heap.size W w' := fun W h => (parse_jb ws wv W (hw.below h) (fun x hx => by have := hz x hx; omega) (hR.below h)).mono fun e w' h => flatJP h
  have hPr : ∀ W, Below w.heap.size w W → Calls Tryz.prog 16 #[wv] W fun e w' => (∃ u, e = .returned (.tuple #[valJ (jobP (parseJ ws)) u, .bool (parseJ ws).isSome]) ∧ TRow w' u (terms (jobP (parseJ ws)))) ∧ Below W.heap.size W w' := fun W h => (refParseJ_any ws wv W (hw.below h) hz).mono fun e w' h => flatJP h
  obtain ⟨X, hX⟩ : ∃ x, x = jobG (getJ s p) := ⟨_, rfl⟩
  obtain ⟨q, hq⟩ : ∃ x, x = placeG (getJ s p) := ⟨_, rfl⟩
  obtain ⟨g, hg⟩ : ∃ x, x = (getJ s p).isSome := ⟨_, rfl⟩
  obtain ⟨Y, hY⟩ : ∃ x, x = jobP (parseJ ws) := ⟨_, rfl⟩
  obtain ⟨h, hh⟩ : ∃ x, x = (parseJ ws).isSome := ⟨_, rfl⟩
  rw [← hX] at hfX hlX
  rw [← hY] at hfY hlY
  rw [← hX, ← hq, ← hg] at hG hGr
  rw [← hY, ← hh] at hP hPr
  obtain ⟨sa, sc, rfl, _, _⟩ := hu.slice
  obtain ⟨ta, tc, rfl, _, _⟩ := hv.slice
  obtain ⟨wa, wc, rfl, _, _⟩ := hw.slice
  have same : ∀ (Z : Jb), Sel.Fair (terms Z) → ∀ u u' W, TRow W u (terms Z) → TRow W u' (terms Z) → Calls Tryz.prog 18 #[valJ Z u, valJ Z u'] W fun e w' => e = .returned (.bool true) ∧ Below W.heap.size W w' := fun Z hf u u' W h1 h2 => by
    have := refSameJ_any Z Z u u' W h1 h2 hf
    rw [decide_eq_true rfl] at this
    exact this
  obtain ⟨V, hV⟩ : ∃ V, V = (totalJ a).getD (0, 0, 0, 0) := ⟨_, rfl⟩
  exact tells9 (path a) (am (dem a) 0) (am (dem a) 1) (am (dem a) 2) (am (dem a) 3) (cou a) (pri a) (tik a) sa (terms a).length sc (terms a) (path b) (am (dem b) 0) (am (dem b) 1) (am (dem b) 2) (am (dem b) 3) (cou b) (pri b) (tik b) ta (terms b).length tc (terms b) s p wa ws.length wc
    (path X) (am (dem X) 0) (am (dem X) 1) (am (dem X) 2) (am (dem X) 3) (cou X) (pri X) (tik X) (terms X) q g (path Y) (am (dem Y) 0) (am (dem Y) 1) (am (dem Y) 2) (am (dem Y) 3) (cou Y) (pri Y) (tik Y) (terms Y) h (am V 0) (am V 1) (am V 2) (am V 3) (totalJ a).isSome (checkJ a) (decide (a = b)) (putJ a) (textJ a) w
    (Lib.hid fun W h => examples_any W (hR.below h)) (Lib.hid fun W h => refX_any a _ w W hu h la) (Lib.hid fun W h => refX_any b _ w W hv h lb)
    (Lib.hid fun u W0 W h1 h2 => refX_any X u W0 W h1 h2 hlX) (Lib.hid fun u W0 W h1 h2 => refX_any Y u W0 W h1 h2 hlY)
    (Lib.hid fun W => by rw [hV]; exact total_any a fa.dem _ W) (Lib.hid fun u W => by rw [hV]; exact refTotal_any a fa.dem u W)
    (Lib.hid hG) (Lib.hid hGr) (Lib.hid hP) (Lib.hid hPr) (Lib.hid (same X hfX)) (Lib.hid (same Y hfY)) (Lib.hid fun W => refV_any _ _ _ _ W)
    (Lib.hid fun W h => check_any a _ W fa (hu.below h)) (Lib.hid fun u W h => refCheck_any a u W fa h)
    (Lib.hid fun W h => same_any a b _ _ W (hu.below h) (hv.below h) fa.terms) (Lib.hid fun u u' W h1 h2 => refSameJ_any a b u u' W h1 h2 fa.terms)
    (Lib.hid fun W h => put_jb a _ W fa (hu.below h)) (Lib.hid fun u W h => refPutJ_any a u W fa h)
    (Lib.hid fun W h => text_jb a _ W fa (hu.below h) (hR.tab.below h)) (Lib.hid fun u W h => refTextJ_any a u W fa h)

open Go.ChangeShapes Go.WideShapes Go.ChangeAt
set_option maxRecDepth 100000 in
theorem contract (H : Type) (enc : TypeId × Value → H) (W : World) (base : Nat) (args : Array Value) (ds gs : List (DataW H)) (before : List MemPlace)
    (hval : ∀ (j : Nat) t v, Tryz.f3.params[j]? = some t → args[j]? = some v → Value.okWide Tryz.prog W .any base t v)
    (hW : DataW.Whole enc Tryz.prog Tryz.f3.params.toList Rows.specTellsSpec.vars false W args.toList ds gs before) (hk : Rows.uptoSmall H (ds ++ gs) = true) (hL : laidMetH Tryz.prog Rows.specTellsUptoRow.laid W) :
    Calls Tryz.prog 3 args W fun e W' => ∃ v, e = .returned v ∧ Rows.specTellsSpec.post enc Tryz.prog Tryz.f3 false true false false W args v W' := by
  have hW' := hW
  obtain ⟨p, q, hA0, hV, rfl, hfz, hnd⟩ := hW
  have hA : DataW.TrodAll enc Tryz.prog W 0 (fun _ => true) true Tryz.f3.params.toList args.toList ds p := hA0
  rw [Tryz.params3] at hA hval
  obtain ⟨v0, vs0, d0, ds0, p0, q0, hargs, rfl, rfl, h0, r0⟩ := trodAll_cons hA
  obtain ⟨v1, vs1, d1, ds1, p1, q1, rfl, rfl, rfl, h1, r1⟩ := trodAll_cons r0
  obtain ⟨v2, vs2, d2, ds2, p2, q2, rfl, rfl, rfl, h2, r2⟩ := trodAll_cons r1
  obtain ⟨v3, vs3, d3, ds3, p3, q3, rfl, rfl, rfl, h3, r3⟩ := trodAll_cons r2
  obtain ⟨v4, vs4, d4, ds4, p4, q4, rfl, rfl, rfl, h4, r4⟩ := trodAll_cons r3
  obtain ⟨rfl, rfl, rfl⟩ := trodAll_nil r4
  obtain rfl : args = #[v0, v1, v2, v3, v4] := by cases args; simp_all
  obtain ⟨rfl, rfl⟩ := trodVars_none hV
  obtain ⟨a0, u0, rfl, w0, f0, g0, _⟩ := Job.open_jb (hval 0 27 v0 rfl rfl) h0
  obtain ⟨k0a, k0b, k0c⟩ := g0.bulk
  obtain ⟨a1, u1, rfl, w1, f1, g1, _⟩ := Job.open_jb (hval 1 27 v1 rfl rfl) h1
  obtain ⟨k1a, k1b, k1c⟩ := g1.bulk
  obtain ⟨a2, rfl, rfl, rfl, _⟩ := Go.ChangeMaps.open_string Tryz.underlying9 (hval 2 9 v2 rfl rfl) h2
  obtain ⟨a3, rfl, rfl, rfl, w3⟩ := open_int Tryz.underlying3 (hval 3 3 v3 rfl rfl) h3
  obtain ⟨a4, w4, g4⟩ := Texts.open_texts Tryz.underlying28 Tryz.underlying9 (by kernel_rfl) (hval 4 28 v4 rfl rfl) h4
  obtain ⟨l4, m4⟩ := g4.bulk
  have hB : Rows.uptoBulkAll ([d0, d1, .lit (.string a2.data.toList), .lit (.int .i64 a3), d4] ++ []) ≤ 1048576 := of_decide_eq_true hk
  simp only [List.append_nil, Rows.uptoBulkAll, Rows.uptoBulk] at hB
  have j0 : Job.FairJ a0 := Job.fair_small (B := 1048576) (by decide) f0 ⟨by omega, by omega, fun t ht => by obtain ⟨x1, x2, x3⟩ := k0c t ht; exact ⟨by omega, by omega, fun y hy => by have := x3 y hy; omega⟩⟩
  have j1 : Job.FairJ a1 := Job.fair_small (B := 1048576) (by decide) f1 ⟨by omega, by omega, fun t ht => by obtain ⟨x1, x2, x3⟩ := k1c t ht; exact ⟨by omega, by omega, fun y hy => by have := x3 y hy; omega⟩⟩
  have z2 : a2.data.toList.length = a2.size := Array.length_toList
  have b3 := bounds_i64 w3
  refine (walk a0 u0 j0 (by omega) a1 u1 j1 (by omega) a2 (by omega) a3 b3.1 b3.2 v4 a4 (by omega) (fun x hx => by have := m4 x hx; omega) W (Job.roots_met hL) w0 w1 w4).mono fun e W' ⟨he, hb⟩ => ?_
  subst he
  exact ⟨_, rfl, Ends.law_end Ends.laidOut (by rw [Tryz.params3]; decide +kernel) rfl (by kernel_rfl) Tryz.underlying4 hW' rfl hb⟩

set_option maxRecDepth 100000 in
theorem lifted (os : Os) (started : os.Started) (H : Type) (enc : TypeId × Value → H) (F : Stop.Interp) :
    ReturnsInHanded {} Tryz.checked os 3 .any (fun w args => ((Rows.OpenSpec.upto Rows.specTellsSpec).pre enc Tryz.prog Tryz.f3 Rows.specTellsUptoRow.domain false w args ∧ laidMetH Tryz.prog Rows.specTellsUptoRow.laid w) ∧ sizedMet enc Tryz.prog Tryz.f3 (Rows.OpenSpec.upto Rows.specTellsSpec) false w args) (((Rows.OpenSpec.upto Rows.specTellsSpec).at F).post enc Tryz.prog Tryz.f3 false true false false) := by
  refine Upto.handed (C := Tryz.checked) (s := Rows.OpenSpec.upto Rows.specTellsSpec) (k := Rows.uptoSmall) (X := fun w => laidMetH Tryz.prog Rows.specTellsUptoRow.laid w) rfl (fun _ _ hh h => h.of_heap hh) Ends.own started (by kernel_rfl) Tryz.func3
    (Upto.witness (enc := enc) (C := Tryz.checked) (os := os) (s := Rows.OpenSpec.upto Rows.specTellsSpec) (k := Rows.uptoSmall) rfl (X := fun w => laidMetH Tryz.prog Rows.specTellsUptoRow.laid w) false (World.laidAll Tryz.prog os Rows.specTellsUptoRow.laid) #[.agg #[.string ⟨#[]⟩, .int .u64 0, .int .u64 0, .int .u64 0, .int .u64 0, .int .i64 0, .int .i64 0, .int .i64 0, .slice none 0 0], .agg #[.string ⟨#[]⟩, .int .u64 0, .int .u64 0, .int .u64 0, .int .u64 0, .int .i64 0, .int .i64 0, .int .i64 0, .slice none 0 0], .string ⟨#[]⟩, .int .i64 0, .slice none 0 0] 8 (World.laidAll_os _ _ _)
      (World.shaped_of_ZipB (by kernel_rfl) (by kernel_rfl)) (by kernel_rfl) (x := ([.agg [.lit (.string []), .agg [.lit (.int .u64 0), .lit (.int .u64 0), .lit (.int .u64 0), .lit (.int .u64 0)], .lit (.int .i64 0), .lit (.int .i64 0), .lit (.int .i64 0), .nil], .agg [.lit (.string []), .agg [.lit (.int .u64 0), .lit (.int .u64 0), .lit (.int .u64 0), .lit (.int .u64 0)], .lit (.int .i64 0), .lit (.int .i64 0), .lit (.int .i64 0), .nil], .lit (.string []), .lit (.int .i64 0), .nil], [], [])) (by kernel_rfl) rfl (by kernel_rfl) (by kernel_rfl)
      (by rw [MakeChecks.laidMetH_plain _ _ _ (by kernel_rfl)]; exact laidMet_laidAll _ (by kernel_rfl) (by kernel_rfl))) ?_
  intro W base args ds gs before hval hW hk hL
  exact contract H enc W base args ds gs before hval hW hk hL

theorem row : Rows.SpecTellsUptoSaid :=
  OpenClaim.holds_of_cond 3 Tryz.f3 rfl rfl rfl rfl rfl rfl rfl ⟨rfl, rfl, rfl, rfl, rfl⟩ rfl rfl rfl rfl rfl (by kernel_rfl) Tryz.func3 (by kernel_rfl)
    (of_decide_eq_true (by kernel_rfl)) (by unfold Func.isWrapper; first | (rw [if_pos (by decide +kernel)]; kernel_rfl) | (rw [if_neg (by decide +kernel)]; exact ⟨rfl, rfl⟩))
    (fun os started H enc _ F => lifted os started H enc F)

/-- The statement: the tied card. -/
theorem proved : Rows.SpecTellsUptoCardSaid :=
  Claim7.holds_tied_plain_at .later [] [.data, .data, .data, .data, .sentinel, .sentinel, .sentinel, .pinned] true Rows.specTellsUptoCard.stood.harness true row (fun _ h => by cases h) (by kernel_rfl) (fun _ h => by cases h) specTellsUpto_row_tie rfl ⟨rfl, rfl⟩ (by kernel_rfl) rfl
    (fun f fn hf hfn => by
      obtain rfl : f = 3 := Option.some.inj ((show Tryz.prog.funcNamed "demesne/demesnelaw11.SpecTells" = some 3 by kernel_rfl).symm.trans hf) |>.symm
      obtain rfl : fn = Tryz.f3 := (Option.some.inj (Tryz.func3.symm.trans hfn)).symm
      exact ⟨by kernel_rfl, fun j t ht => by
        rw [Tryz.params3] at ht
        have hm : t ∈ [27, 27, 9, 3, 28] := by simpa using Array.mem_of_getElem? ht
        have hall : ([27, 27, 9, 3, 28].all fun u => !Tryz.prog.wantsStandIn u) = true := by kernel_rfl
        exact (show Tryz.prog.wantsStandIn t = false by simpa using List.all_eq_true.1 hall t hm)⟩)
    (by kernel_rfl)
end Go.Proofs.YtbilkeadhflibaaGreatDoor.specTells
