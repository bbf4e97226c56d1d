/- What the document's own Cut and Find answer, and what the statements' own refL does; of memory that was there nothing turns. -/
import Derived.Test.YtbilkeadhflibaaGreatDoorSLits
import Derived.Test.YtbilkeadhflibaaGreatDoorRefName
namespace Go.Proofs.YtbilkeadhflibaaGreatDoor.Label
open Go.RowKit Go.Proofs.YtbilkeadhflibaaGreatDoor.Word Go.Proofs.YtbilkeadhflibaaGreatDoor.Forms Go.Proofs.YtbilkeadhflibaaGreatDoor.Texts Go.Proofs.YtbilkeadhflibaaGreatDoor.Boxes Go.Proofs.YtbilkeadhflibaaGreatDoor.Sel

theorem Row.slice {w : World} {v : Value} {ls : List Pr} (h : Row w v ls) : ∃ a cap, v = .slice a ls.length cap := by
  rcases h with ⟨rfl, a, cap, rfl, _⟩ | ⟨_, g, o, cap, rfl, _⟩
  · exact ⟨_, _, rfl⟩
  · exact ⟨_, _, rfl⟩
theorem Row.cells {w : World} {a : Option Addr} {cap k n : Nat} {ls : List Pr} (h : Row w (.slice a n cap) ls) (hk : k < ls.length) : ∃ g o, a = some ⟨g, o, none⟩ ∧ g < w.heap.size ∧ Cells w g o ls := by
  rcases h with ⟨rfl, _⟩ | ⟨_, g, o, cap', hsl, hg, _, _, hcell⟩
  · simp at hk
  · injection hsl with h1 _ _
    exact ⟨g, o, h1, hg, hcell⟩
def svalsL (ts : List (List UInt8)) : List Value := ts.map fun t => .string (str t)
theorem own_l {B : Nat} {T : TypeId} {w : World} {v : Value} {ts : List (List UInt8)} (h : w.ownsRow B T 1 v ts.length (svalsL ts)) : SRow w v (ts.map str) := by
  refine own_srow (T := T) (B := B) ?_
  rw [List.length_map]
  have e : svals (ts.map str) = svalsL ts := by unfold svals svalsL; rw [List.map_map]; rfl
  rw [e]
  exact h
theorem new_oneT (T : TypeId) (w : World) (x : Value) : ∀ j u, [x][j]? = some u → (w.alloc (.cells #[x] T)).cell? ((⟨w.heap.size, 0, none⟩ : Addr).add j) = some u := by
  intro j u hj
  have h : (w.alloc (.cells #[x] T)).heap[w.heap.size]? = some (.cells #[x] T) := heap_alloc_new _ _
  rw [Addr.add_lit]
  match j with
  | 0 => simp at hj; subst hj; simp only [World.cell?, h]; rfl
  | (n + 1) => simp at hj
theorem extract_mid (s : ByteArray) (a b : Nat) : s.extract a b = str ((s.data.toList.drop a).take (b - a)) := by
  apply ByteArray.ext
  apply Array.toList_inj.1
  rw [Lib.extract_data]
  simp [str]

set_option maxHeartbeats 4000000 in
set_option maxRecDepth 100000 in
theorem cut_rows (s : ByteArray) (hs : s.size ≤ 1048576) (c : UInt8) (w : World) :
    Calls Tryz.prog 85 #[.string s, .int .u8 (c.toNat : Int)] w fun e w' => (∃ v, e = .returned v ∧ SRow w' v ((cuts c s.data.toList).map str) ∧ ∀ g, v.ownBlock = some g → w.heap.size ≤ g) ∧ Below w.heap.size w w' := by
  obtain ⟨i0, hi, hz0, hz1, hz2⟩ := info_parts infoS
  have hls := size_list s
  obtain ⟨l, hl⟩ : ∃ l, l = s.data.toList := ⟨_, rfl⟩
  rw [← hl] at hls ⊢
  have HL := Lib.hid hl
  clear hl
  go_enter Tryz.func85, Tryz.ntmps85
  go_wp2
  go_loopw [5, 6, 7] (fun t f i wr => ∃ (k fr : Nat) (done : List (List UInt8)), i = .int .i64 k ∧ f = .int .i64 fr ∧ fr ≤ s.size + 1 ∧ done.length ≤ k ∧ ((k ≤ s.size ∧ fr ≤ k ∧ c ∉ (l.drop fr).take (k - fr) ∧ done ++ cuts c (l.drop fr) = cuts c l) ∨ (k = s.size + 1 ∧ done = cuts c l)) ∧ wr.ownsRow w.heap.size 9 1 t done.length (svalsL done) ∧ Below w.heap.size w wr) (fun _ _ i _ => s.size + 1 - (intOf i).toNat)
  case atStart => exact ⟨0, 0, [], rfl, rfl, by omega, Nat.le_refl _, .inl ⟨Nat.zero_le _, Nat.le_refl _, by simp, rfl⟩, World.ownsRow_nil _ _ _ _, Below.refl _ _⟩
  case round =>
    obtain ⟨k, fr, done, rfl, rfl, hfr, hdl, hst, hown, hb⟩ := hrel
    have HOWN := Lib.hid hown
    clear hown
    rcases hst with ⟨hk, hfk, hfree, hcut⟩ | ⟨rfl, hdone⟩
    · have HF := Lib.hid hfree
      have HC := Lib.hid hcut
      clear hfree hcut
      have HLz : Hid (done.length + 1 ≤ maxLen ∧ (done.length + 1) * 16 ≤ 140737488355328 ∧ w.heap.size ≤ wr.heap.size + 1) := Lib.hid (by have := hb.size; unfold maxLen; omega)
      by_cases hkn : k = s.size
      · have HKN := Lib.hid hkn
        have heq : ((k : Int) == (s.size : Int)) = true := by rw [beq_iff_eq]; omega
        have hkz : (k : Int) ≤ (s.size : Int) := by omega
        have hf0 : (0 : Int) ≤ (fr : Int) := by omega
        have hfz : (fr : Int) ≤ (k : Int) := by omega
        have hex : s.extract fr k = str (l.drop fr) := by rw [extract_mid, ← HL.out, List.take_of_length_le (by rw [List.length_drop]; omega)]
        have hbA : Below w.heap.size w (wr.alloc (.cells #[.string (str (l.drop fr))] 9)) := hb.alloc hb.size _
        have HDone : Hid (done ++ [l.drop fr] = cuts c l) := Lib.hid (by
          have h1 := HF.out
          rw [List.take_of_length_le (by rw [List.length_drop]; omega)] at h1
          rw [← HC.out, cuts_free h1])
        clear hkn
        go_wp2_with (at_builtin; refine wpList_append_own _ rfl _ _ 28 rfl w.heap.size 9 i0 (.string ByteArray.empty) 1 16 Tryz.underlying28 hi hz0 hz1 hz2 rfl (by decide) _ _ _ rfl (HOWN.out.alloc _) ⟨wr.heap.size, 0, none⟩ 1 1 [.string (str (l.drop fr))] rfl rfl (new_oneT _ _ _) (fun u hu => by simp at hu; subst hu; rfl) HLz.out.1 HLz.out.2.1 (by rw [World.size_alloc]; exact HLz.out.2.2) ?_)
        intro v' w4 hown' hgrow _
        have hown4 : w4.ownsRow w.heap.size 9 1 v' (done ++ [(l.drop fr)]).length (svalsL (done ++ [(l.drop fr)])) := by simpa [svalsL] using hown'
        have hb4 : Below w.heap.size w w4 := hbA.grown hgrow hbA.size (fun k hk => (HOWN.out.lt k hk).1)
        clear hown' hgrow
        go_wp2
        go_roundw
        case rel => exact ⟨k + 1, k + 1, done ++ [l.drop fr], by go_num, by go_num, by omega, by rw [List.length_append]; simp; omega, .inr ⟨by have := HKN.out; omega, HDone.out⟩, hown4, hb4⟩
        case measure => have := HKN.out; simp [intOf]; omega
      · have hlt : k < s.size := by omega
        have hne : ((k : Int) == (s.size : Int)) = false := by rw [beq_eq_false_iff_ne]; omega
        have hkz : (k : Int) ≤ (s.size : Int) := by omega
        have hk0 : (0 : Int) ≤ (k : Int) := by omega
        have hklt : (k : Int) < (s.size : Int) := by omega
        have hf0 : (0 : Int) ≤ (fr : Int) := by omega
        have hfz : (fr : Int) ≤ (k : Int) := by omega
        obtain ⟨d, hd⟩ : ∃ d, s[k]'hlt = d := ⟨_, rfl⟩
        have HD : Hid (l[k]? = some d) := Lib.hid (by
          rw [HL.out, ← hd, Array.getElem?_toList]
          exact Array.getElem?_eq_getElem hlt)
        have HDrop : Hid ((l.drop fr) = (l.drop fr).take (k - fr) ++ d :: l.drop (k + 1)) := Lib.hid (by
          obtain ⟨h1, h2⟩ := List.getElem?_eq_some_iff.1 HD.out
          have h3 : l.drop k = d :: l.drop (k + 1) := by rw [List.drop_eq_getElem_cons h1, h2]
          have h4 : (l.drop fr).drop (k - fr) = l.drop k := by rw [List.drop_drop]; congr 1; omega
          rw [← h3, ← h4, List.take_append_drop])
        by_cases hdc : d = c
        · subst hdc
          have hq : ((d.toNat : Int) == (d.toNat : Int)) = true := by simp
          obtain ⟨pc, hpc⟩ : ∃ pc, pc = (l.drop fr).take (k - fr) := ⟨_, rfl⟩
          have hex : s.extract fr k = str pc := by rw [extract_mid, ← HL.out, hpc]
          have hbA : Below w.heap.size w (wr.alloc (.cells #[.string (str pc)] 9)) := hb.alloc hb.size _
          have HNew : Hid (done ++ [pc] ++ cuts d (l.drop (k + 1)) = cuts d l) := Lib.hid (by
            have h1 := HF.out
            rw [← hpc] at h1
            rw [← HC.out, HDrop.out, ← hpc, cuts_cut _ h1]
            simp)
          clear hpc
          go_wp2_with (at_builtin; refine wpList_append_own _ rfl _ _ 28 rfl w.heap.size 9 i0 (.string ByteArray.empty) 1 16 Tryz.underlying28 hi hz0 hz1 hz2 rfl (by decide) _ _ _ rfl (HOWN.out.alloc _) ⟨wr.heap.size, 0, none⟩ 1 1 [.string (str pc)] rfl rfl (new_oneT _ _ _) (fun u hu => by simp at hu; subst hu; rfl) HLz.out.1 HLz.out.2.1 (by rw [World.size_alloc]; exact HLz.out.2.2) ?_)
          intro v' w4 hown' hgrow _
          have hown4 : w4.ownsRow w.heap.size 9 1 v' (done ++ [pc]).length (svalsL (done ++ [pc])) := by simpa [svalsL] using hown'
          have hb4 : Below w.heap.size w w4 := hbA.grown hgrow hbA.size (fun k hk => (HOWN.out.lt k hk).1)
          clear hown' hgrow
          go_wp2
          go_roundw
          case rel => exact ⟨k + 1, k + 1, done ++ [pc], by go_num, by go_num, by omega, by rw [List.length_append]; simp; omega, .inl ⟨by omega, Nat.le_refl _, by simp, HNew.out⟩, hown4, hb4⟩
          case measure => simp [intOf]; omega
        · have hq : ((d.toNat : Int) == (c.toNat : Int)) = false := by
            rw [beq_eq_false_iff_ne]
            intro h
            exact hdc (UInt8.toNat_inj.1 (by omega))
          have HFN : Hid (c ∉ (l.drop fr).take (k + 1 - fr)) := Lib.hid (by
            have e : (l.drop fr).take (k + 1 - fr) = (l.drop fr).take (k - fr) ++ [d] := by
              have hx : (l.drop fr)[k - fr]? = some d := by rw [List.getElem?_drop, show fr + (k - fr) = k by omega]; exact HD.out
              rw [show k + 1 - fr = (k - fr) + 1 by omega, List.take_add_one, hx]
              rfl
            rw [e, List.mem_append, List.mem_singleton]
            rintro (h | h)
            · exact HF.out h
            · exact hdc h.symm)
          have HDC := Lib.hid hdc
          clear hdc
          go_wp2
          go_roundw
          case rel => exact ⟨k + 1, fr, done, by go_num, rfl, by omega, by omega, .inl ⟨by omega, by omega, HFN.out, HC.out⟩, HOWN.out, hb⟩
          case measure => simp [intOf]; omega
    · have hgt : ¬ (((s.size + 1 : Nat) : Int) ≤ (s.size : Int)) := by omega
      subst hdone
      go_wp2
      go_ret
      exact ⟨⟨_, rfl, own_l HOWN.out, fun g hg => (HOWN.out.lt g hg).1⟩, hb⟩


theorem fm_snoc (ls : List Pr) (x : Pr) : (ls ++ [x]).flatMap enc = ls.flatMap enc ++ [.string x.1, .string x.2] := by simp [enc]
theorem fm_get : ∀ (ls : List Pr) (j : Nat) (x : Pr), ls[j]? = some x → (ls.flatMap enc)[j * 2]? = some (.string x.1) ∧ (ls.flatMap enc)[j * 2 + 1]? = some (.string x.2)
  | [], j, x, h => by simp at h
  | a :: r, 0, x, h => by simp at h; subst h; exact ⟨rfl, rfl⟩
  | a :: r, j + 1, x, h => by
    obtain ⟨h1, h2⟩ := fm_get r j x (by simpa using h)
    have e : (a :: r).flatMap enc = .string a.1 :: .string a.2 :: r.flatMap enc := rfl
    rw [e, show (j + 1) * 2 = j * 2 + 1 + 1 by omega]
    exact ⟨h1, h2⟩
theorem own_rowT {B : Nat} {T : TypeId} {w : World} {v : Value} {ls : List Pr} (h : w.ownsRow B T 2 v ls.length (ls.flatMap enc)) : Row w v ls := by
  have hc := fun g hg => h.cells (g := g) hg
  rcases h.2 with ⟨rfl, h0⟩ | ⟨g, cap, cur, rfl, hB, hg, hcap, hm, hsz, htake⟩
  · exact .inl ⟨List.eq_nil_of_length_eq_zero h0, _, _, rfl, Nat.zero_le _⟩
  · by_cases hl : ls = []
    · subst hl; exact .inl ⟨rfl, _, _, rfl, hm⟩
    · refine .inr ⟨hl, g, 0, cap, rfl, (Array.getElem?_eq_some_iff.1 hg).1, hcap, hm, fun j x hj => ?_⟩
      obtain ⟨h0, h1⟩ := fm_get ls j x hj
      have e0 := hc g rfl _ _ h0
      have e1 := hc g rfl _ _ h1
      rw [Addr.add_lit] at e0 e1
      exact ⟨e0, e1⟩
theorem new_twoT (T : TypeId) (w : World) (x y : Value) : ∀ j u, [x, y][j]? = some u → (w.alloc (.cells #[x, y] T)).cell? ((⟨w.heap.size, 0, none⟩ : Addr).add j) = some u := by
  intro j u hj
  have h : (w.alloc (.cells #[x, y] T)).heap[w.heap.size]? = some (.cells #[x, y] T) := heap_alloc_new _ _
  rw [Addr.add_lit]
  match j with
  | 0 => simp at hj; subst hj; simp only [World.cell?, h]; rfl
  | 1 => simp at hj; subst hj; simp only [World.cell?, h]; rfl
  | (n + 2) => simp at hj


end Go.Proofs.YtbilkeadhflibaaGreatDoor.Label
