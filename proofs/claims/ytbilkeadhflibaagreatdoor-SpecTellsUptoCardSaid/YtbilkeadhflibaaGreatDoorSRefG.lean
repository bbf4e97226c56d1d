/- What the document's own Get tells of any place of any text that is not too long for a machine; of memory that was there nothing turns. -/
import Derived.Test.YtbilkeadhflibaaGreatDoorSRefM
import Derived.Test.YtbilkeadhflibaaGreatDoorSRefQ
import Derived.Test.YtbilkeadhflibaaGreatDoorJL4
namespace Go.Proofs.YtbilkeadhflibaaGreatDoor.Sel
open Go.RowKit Go.Proofs.YtbilkeadhflibaaGreatDoor.Texts Go.Proofs.YtbilkeadhflibaaGreatDoor.Word Go.Proofs.YtbilkeadhflibaaGreatDoor.Forms Go.Proofs.YtbilkeadhflibaaGreatDoor.Boxes

theorem refTerm_any (s : ByteArray) (hs : s.size ≤ 9223372036854775797) (p : Int) (w : World) :
    Calls Tryz.prog 79 #[.string s, .int .i64 p] w (TermG (oneT s p) w) := by
  unfold oneT
  cases h : oneText s p with
  | none =>
    cases hg : Wire.getV s.data.toList 0 with
    | none => exact term_text s p 0 0 0 false w (Lib.hid (refOneText_no s hs p h)) (Lib.hid (Wire.refGet_no s hs 0 hg))
    | some x => exact term_text s p 0 x.1 x.2 true w (Lib.hid (refOneText_no s hs p h)) (Lib.hid (Wire.refGet_yes s hs 0 x.1 x.2 hg))
  | some k =>
    obtain ⟨k, q1⟩ := k
    simp only
    cases hg : Wire.getV s.data.toList q1 with
    | none => exact term_number s p k q1 w (Lib.hid (refOneText_yes s hs p k q1 h)) (Lib.hid (Wire.refGet_no s hs q1 hg))
    | some n =>
      obtain ⟨n, q2⟩ := n
      simp only
      by_cases hn : 9 < n
      · rw [if_pos hn]
        exact term_great s p k q1 n q2 hn w (Lib.hid (refOneText_yes s hs p k q1 h)) (Lib.hid (Wire.refGet_yes s hs q1 n q2 hg))
      · rw [if_neg hn]
        exact refTerm_go s hs p k q1 n (n / 2) _ q2 (by omega) rfl rfl h hg w

theorem readN_each {α π : Type} {one : π → Option (α × π)} {ok : α → Prop} (h : ∀ p x q, one p = some (x, q) → ok x) : ∀ {n : Nat} {p : π} {r : List α × π}, readN one n p = some r → ∀ x ∈ r.1, ok x
  | 0, p, r, hr => by
    simp only [readN, Option.some.injEq] at hr
    subst hr
    simp
  | n + 1, p, r, hr => by
    unfold readN at hr
    split at hr
    · cases hr
    rename_i y hy
    split at hr
    · cases hr
    rename_i z hz
    simp only [Option.some.injEq] at hr
    subst hr
    intro x hx
    rcases List.mem_cons.1 hx with rfl | hx
    · exact h p _ _ hy
    · exact readN_each h hz x hx
theorem oneText_size {s : ByteArray} {p : Int} {x : ByteArray} {q : Int} (h : oneText s p = some (x, q)) : x.size ≤ s.size := by
  unfold oneText at h
  split at h
  · cases h
  simp only [Option.some.injEq, Prod.mk.injEq] at h
  rw [← h.1, ByteArray.size_extract]
  omega
def FairOne (t : Tm) : Prop := t.1.size ≤ 4611686018427387904 ∧ t.2.2.length ≤ 4611686018427387904 ∧ ∀ x ∈ t.2.2, x.size ≤ 4611686018427387904
theorem oneT_fair {s : ByteArray} (hs : s.size ≤ 1048576) (p : Int) (t : Tm) (q : Int) (h : oneT s p = some (t, q)) : FairOne t := by
  unfold oneT at h
  split at h
  · cases h
  rename_i k hk
  split at h
  · cases h
  rename_i n hn
  split at h
  · cases h
  split at h
  · cases h
  rename_i hn9 vs hv
  simp only [Option.some.injEq, Prod.mk.injEq] at h
  rw [← h.1]
  have hl := readN_len hv
  refine ⟨?_, ?_, fun x hx => ?_⟩
  · have := oneText_size (x := k.1) (q := k.2) hk
    show k.1.size ≤ _
    omega
  · show vs.1.length ≤ _
    omega
  · have := readN_each (ok := fun x => x.size ≤ s.size) (fun p x q h => oneText_size h) hv x hx
    omega

set_option maxHeartbeats 1000000 in
set_option maxRecDepth 100000 in
theorem refGet_fails (s : ByteArray) (p : Int) (n : Nat) (q : Int) (y : Bool) (hy : y = false ∨ 4 < n) (w : World)
    (HG : Hid (∀ W, Calls Tryz.prog 36 #[.string s, .int .i64 p] W fun e w' => e = .returned (.tuple #[.int .u64 n, .int .i64 q, .bool y]) ∧ W = w')) :
    Calls Tryz.prog 37 #[.string s, .int .i64 p] w (TellsG none w) := by
  cases y with
  | false =>
    clear hy
    go_enter Tryz.func37, Tryz.ntmps37
    go_wp2_with fail
    with_reducible refine (HG.out _).mono ?_
    rintro e _ ⟨rfl, rfl⟩
    go_wp2
    go_ret3
    exact ⟨rfl, Below.refl _ _⟩
  | true =>
    have hn : (4 : Int) < (n : Int) := by
      rcases hy with h | h
      · cases h
      · omega
    clear hy
    go_enter Tryz.func37, Tryz.ntmps37
    go_wp2_with fail
    with_reducible refine (HG.out _).mono ?_
    rintro e _ ⟨rfl, rfl⟩
    go_wp2
    go_ret3
    exact ⟨rfl, Below.refl _ _⟩

set_option maxHeartbeats 4000000 in
set_option maxRecDepth 100000 in
theorem refGet_go (s : ByteArray) (hs : s.size ≤ 1048576) (p : Int) (n q2 : Nat) (hn : n ≤ 4) (hg : Wire.getV s.data.toList p = some (n, q2)) (w : World) :
    Calls Tryz.prog 37 #[.string s, .int .i64 p] w (TellsG (keepS (readN (oneT s) n (q2 : Int))) w) := by
  obtain ⟨i0, hi, hz0, hz1, hz2⟩ := info_parts infoT5
  have HG := Lib.hid (Wire.refGet_yes s (by omega) p n q2 hg)
  have HFT : Hid (∀ p t q, oneT s p = some (t, q) → FairOne t) := Lib.hid (oneT_fair hs)
  have hwn : IntKind.i64.wrap (n : Int) = (n : Int) := by rw [IntKind.wrap_i64]; omega
  have hn4 : ¬ (4 : Int) < (n : Int) := by omega
  have hn4d : decide ((4 : Int) < (n : Int)) = false := decide_eq_false hn4
  have hn4e : decide (4 < n) = false := decide_eq_false (by omega)
  clear hg
  go_enter Tryz.func37, Tryz.ntmps37
  go_wp2_with fail
  with_reducible refine (HG.out _).mono ?_
  rintro e _ ⟨rfl, rfl⟩
  go_wp2_with fail
  go_loopw [1, 9, 10] (fun at' t i wr => ∃ (j : Nat) (xs : List (Tm × Value)) (q : Int), j ≤ n ∧ i = .int .i64 j ∧ at' = .int .i64 q ∧ xs.length = j ∧ Forms.ahead (xs.map (·.1)) (readN (oneT s) (n - j) q) = readN (oneT s) n (q2 : Int) ∧ (∀ x ∈ xs, FairOne x.1) ∧ Made5 w.heap.size wr t xs ∧ Below w.heap.size w wr) (fun _ _ i _ => n - (intOf i).toNat)
  case atStart => exact ⟨0, [], q2, Nat.zero_le _, rfl, rfl, rfl, ahead_nil _, fun x hx => by simp at hx, Made5.start _ _, Below.refl _ _⟩
  case round =>
    obtain ⟨j, xs, q, hj, rfl, rfl, hxl, hrd, hfx, hmk, hb⟩ := hrel
    have HXL := Lib.hid hxl
    have HRD := Lib.hid hrd
    have HFX := Lib.hid hfx
    have HMK := Lib.hid hmk
    clear hxl hrd hfx hmk
    have hbs := hb.size
    by_cases hlt : j < n
    · have hltz : (j : Int) < (n : Int) := by omega
      have HT := Lib.hid (refTerm_any s (by omega) q)
      cases hone : oneT s q with
      | none =>
        rw [hone] at HT
        have HNo : Hid (readN (oneT s) n (q2 : Int) = none) := Lib.hid (by rw [← HRD.out, show n - j = (n - (j + 1)) + 1 by omega, readN_stop hone])
        clear hone
        go_wp2_with fail
        with_reducible refine (HT.out _).mono ?_
        rintro e w2 ⟨rfl, hb2⟩
        go_wp2
        go_ret3
        rw [HNo.out]
        exact ⟨rfl, grows (grows hb hb2) (grew w2 _)⟩
      | some x =>
        obtain ⟨t, q'⟩ := x
        rw [hone] at HT
        have HRD2 : Hid (Forms.ahead (xs.map (·.1) ++ [t]) (readN (oneT s) (n - (j + 1)) q') = readN (oneT s) n (q2 : Int)) := Lib.hid (by rw [← HRD.out, show n - j = (n - (j + 1)) + 1 by omega, readN_go hone])
        have HFt := Lib.hid (HFT.out q t q' hone)
        have HLz : Hid (xs.length + 1 ≤ maxLen ∧ (xs.length + 1) * 48 ≤ 140737488355328) := Lib.hid (by have := HXL.out; unfold maxLen; omega)
        clear hone
        go_wp2_with fail
        with_reducible refine (HT.out _).mono ?_
        rintro e w2 ⟨⟨v2, rfl, s2, rfl, hs2⟩, hb2⟩
        obtain ⟨sa, sc, rfl, _, _⟩ := hs2.row.slice
        have HS3 := Lib.hid (hs2.below (old w2 (.cells #[.string t.1, .bool t.2.1, .slice sa t.2.2.length sc] 108)))
        have hb3 := grows hb2 (old w2 (.cells #[.string t.1, .bool t.2.1, .slice sa t.2.2.length sc] 108))
        have HO3 := Lib.hid (own_below HMK.out.own hb3)
        have h3s := size_alloc w2 (.cells #[.string t.1, .bool t.2.1, .slice sa t.2.2.length sc] 108)
        have hb2s := hb2.size
        have h4s : (World.alloc (World.alloc w2 (.cells #[.string t.1, .bool t.2.1, .slice sa t.2.2.length sc] 108)) (.cells #[.string t.1, .bool t.2.1, .slice sa t.2.2.length sc] 108)).heap.size = w2.heap.size + 1 + 1 := by rw [size_alloc, size_alloc]
        have HN3 : Hid (∀ j u, [Value.string t.1, .bool t.2.1, .slice sa t.2.2.length sc][j]? = some u → (World.alloc (World.alloc w2 (.cells #[.string t.1, .bool t.2.1, .slice sa t.2.2.length sc] 108)) (.cells #[.string t.1, .bool t.2.1, .slice sa t.2.2.length sc] 108)).cell? ((⟨w2.heap.size + 1, 0, none⟩ : Addr).add j) = some u) := Lib.hid (by
          have := new3 (World.alloc w2 (.cells #[.string t.1, .bool t.2.1, .slice sa t.2.2.length sc] 108)) (.string t.1) (.bool t.2.1) (.slice sa t.2.2.length sc) 108
          rw [h3s] at this
          exact this)
        clear hs2
        go_wp2_with (at_builtin; refine wpList_append_lies _ rfl _ _ 31 rfl w.heap.size 108 i0 (.agg #[.string ByteArray.empty, .bool false, .slice none 0 0]) 3 48 Tryz.underlying31 hi hz0 hz1 hz2 rfl (by decide) _ _ _ rfl (World.ownsRow.alloc HO3.out _) ⟨w2.heap.size + 1, 0, none⟩ 1 1 [.string t.1, .bool t.2.1, .slice sa t.2.2.length sc] rfl rfl HN3.out (one3 _ _ _ _ _) (by decide) HLz.out.1 HLz.out.2 (by rw [h4s]; omega) (w2.heap.size + 1 + 1) h4s ?_)
        intro g5 cap5 w5 hown5 hgrow5 hat5 _
        obtain ⟨hm5, hb5⟩ := HMK.out.step hbs hb3 HS3.out hown5 hgrow5 (by rw [h3s]; exact hat5)
        have HM5 := Lib.hid hm5
        have hb6 : Below w.heap.size w w5 := hb.trans hb5
        clear hown5 hgrow5 hat5 hm5 hb5 hb3 h3s h4s
        go_wp2
        go_roundw
        case rel => exact ⟨j + 1, xs ++ [(t, .slice sa t.2.2.length sc)], q', by omega, by go_num, rfl, by rw [List.length_append, HXL.out]; rfl, by rw [List.map_append]; exact HRD2.out, (fun x hx => by
          rcases List.mem_append.1 hx with hx | hx
          · exact HFX.out x hx
          · rw [List.mem_singleton.1 hx]; exact HFt.out), HM5.out, hb6⟩
        case measure => simp [intOf]; omega
    · have hjn : j = n := by omega
      have hltz : ¬ (j : Int) < (n : Int) := by omega
      have htr := HMK.out.trow
      have HTR := Lib.hid htr
      have HFin : Hid (readN (oneT s) n (q2 : Int) = some (xs.map (·.1), q)) := Lib.hid (by
        rw [← HRD.out, hjn, Nat.sub_self]
        simp [readN, Forms.ahead])
      have hfair : Fair (xs.map (·.1)) := ⟨by rw [List.length_map, HXL.out]; omega, fun t ht => by
        obtain ⟨x, hx, rfl⟩ := List.mem_map.1 ht
        exact HFX.out x hx⟩
      have HR := Lib.hid (refRightS_any _ _ wr htr hfair)
      obtain ⟨M, hM⟩ : ∃ M, M = xs.map (·.1) := ⟨_, rfl⟩
      rw [← hM] at HR HTR HFin
      clear htr hfair hM
      cases hr : rightS M with
      | false =>
        have HE : Hid (keepS (readN (oneT s) n (q2 : Int)) = none) := Lib.hid (by rw [HFin.out]; simp [keepS, hr])
        rw [hr] at HR
        clear hr
        go_wp2_with fail
        with_reducible refine HR.out.mono ?_
        rintro e w2 ⟨rfl, hb2⟩
        go_wp2
        go_ret3
        rw [HE.out]
        exact ⟨rfl, grows hb hb2⟩
      | true =>
        have HE : Hid (keepS (readN (oneT s) n (q2 : Int)) = some (M, q)) := Lib.hid (by rw [HFin.out]; simp [keepS, hr])
        rw [hr] at HR
        clear hr
        go_wp2_with fail
        with_reducible refine HR.out.mono ?_
        rintro e w2 ⟨rfl, hb2⟩
        go_wp2
        go_ret3
        rw [HE.out]
        exact ⟨⟨_, rfl, HTR.out.below hb2⟩, grows hb hb2⟩

theorem refGetS_any (s : ByteArray) (hs : s.size ≤ 1048576) (p : Int) (w : World) :
    Calls Tryz.prog 37 #[.string s, .int .i64 p] w (TellsG (getS s p) w) := by
  unfold getS
  cases hg : Wire.getV s.data.toList p with
  | none => exact refGet_fails s p 0 0 false (.inl rfl) w (Lib.hid (Wire.refGet_no s (by omega) p hg))
  | some a =>
    simp only
    by_cases h4 : 4 < a.1
    · rw [if_pos h4]
      exact refGet_fails s p a.1 a.2 true (.inr h4) w (Lib.hid (Wire.refGet_yes s (by omega) p a.1 a.2 hg))
    · rw [if_neg h4]
      exact refGet_go s hs p a.1 a.2 (by omega) hg w
end Go.Proofs.YtbilkeadhflibaaGreatDoor.Sel
