/- What the document's own one tells of a piece with a key, a mark and values. -/
import Derived.Test.YtbilkeadhflibaaGreatDoorSRefO
namespace Go.Proofs.YtbilkeadhflibaaGreatDoor.Sel
open Go.RowKit Go.Proofs.YtbilkeadhflibaaGreatDoor.Texts Go.Proofs.YtbilkeadhflibaaGreatDoor.Word Go.Proofs.YtbilkeadhflibaaGreatDoor.Forms Go.Proofs.YtbilkeadhflibaaGreatDoor.Boxes Go.Proofs.YtbilkeadhflibaaGreatDoor.Label

set_option maxHeartbeats 4000000 in
set_option maxRecDepth 100000 in
theorem one_bang (s K B : ByteArray) (K2 : ByteArray) (n : Nat) (hK : K.size = n + 1) (hKs : K.size ≤ 1048576) (hl : (((K[n]'(by omega)).toNat : Int) == 33) = true) (hk2 : K.extract 0 n = K2) (hs : s.size ≤ 1048576) (h0 : 0 < s.size) (h33 : ¬ s[0]'h0 = 33) (w : World) (vs : List ByteArray)
    (HC : Hid (∀ W, Calls Tryz.prog 85 #[.string s, .int .u8 61] W fun e w' => (∃ v, e = .returned v ∧ SRow w' v [K, B]) ∧ Below W.heap.size W w'))
    (HD : Hid (∀ W, Calls Tryz.prog 85 #[.string B, .int .u8 124] W fun e w' => (∃ v, e = .returned v ∧ SNew W.heap.size w' v vs) ∧ Below W.heap.size W w')) :
    Calls Tryz.prog 86 #[.string s] w (OneR (K2, true, vs) w) := by
  have hz : (0 : Int) < (s.size : Int) := by omega
  obtain ⟨d, hd⟩ : ∃ d, s[0]'h0 = d := ⟨_, rfl⟩
  have hq : ((d.toNat : Int) == 33) = false := by rw [beq_eq_false_iff_ne]; intro h; exact h33 (by rw [hd]; exact UInt8.toNat_inj.1 (by show d.toNat = 33; omega))
  clear h33
  have hk0 : (0 : Int) < (K.size : Int) := by omega
  have hwk : IntKind.i64.wrap ((K.size : Int) - 1) = (n : Int) := by rw [IntKind.wrap_i64]; omega
  have hn0 : (0 : Int) ≤ (n : Int) := by omega
  have hn1 : n < K.size := by omega
  have hn2 : (n : Int) < (K.size : Int) := by omega
  have hn3 : (n : Int) ≤ (K.size : Int) := by omega
  obtain ⟨x, hx⟩ : ∃ x, K[n]'hn1 = x := ⟨_, rfl⟩
  have hq2 : ((x.toNat : Int) == 33) = true := by rw [← hx]; exact hl
  have HKN := Lib.hid hK
  clear hK hl
  go_enter Tryz.func86, Tryz.ntmps86
  go_wp2_with fail
  with_reducible refine (HC.out _).mono ?_
  rintro e w1 ⟨⟨v, rfl, hrow⟩, hb1⟩
  obtain ⟨a, cap, hv, _, _⟩ := hrow.slice
  change v = .slice a 2 cap at hv
  subst hv
  obtain ⟨g, o, rfl, hg, hcell⟩ := hrow.cells (k := 0) (by simp)
  have c0 : w1.cell? ⟨g, o, none⟩ = some (.string K) := hcell 0 K rfl
  have c1 : w1.cell? ⟨g, o + 1, none⟩ = some (.string B) := hcell 1 B rfl
  have hB := keep (fresh w _) hb1
  have hb := grows (grew w _) hb1
  have HB := Lib.hid hB
  clear hrow hcell hB
  go_wp2_with fail
  have hz1 : Below w1.heap.size w1 (World.drew w1) := (Below.refl _ _).drew
  have hz2 : Below w1.heap.size w1 (World.drew (World.alloc w1 (.cells #[.string ⟨#[]⟩, .bool false, .slice none 0 0] 108))) := (grew w1 _).drew
  have hTz : (World.drew (World.alloc w1 (.cells #[.string ⟨#[]⟩, .bool false, .slice none 0 0] 108))).heap[w1.heap.size]? = some (.cells #[.string ⟨#[]⟩, .bool false, .slice none 0 0] 108) := fresh w1 _
  have HTz := Lib.hid hTz
  have c0a : (World.alloc w1 (.cells #[.string ⟨#[]⟩, .bool false, .slice none 0 0] 108)).cell? ⟨g, o, none⟩ = some (.string K) := ((grew w1 _).cell (p := ⟨g, o, none⟩) hg).trans c0
  have c1a : (World.alloc w1 (.cells #[.string ⟨#[]⟩, .bool false, .slice none 0 0] 108)).cell? ⟨g, o + 1, none⟩ = some (.string B) := ((grew w1 _).cell (p := ⟨g, o + 1, none⟩) hg).trans c1
  have Hz1 := Lib.hid hz1
  have Hz2 := Lib.hid hz2
  clear hz1 hz2 hTz
  go_region_law (first
    | (go_simp; go_at_call 85; (with_reducible refine (HD.out (World.drew w1)).mono ?_); rintro e w2 ⟨⟨v2, rfl, hrow2⟩, hb20⟩; obtain ⟨a2, cap2, rfl, _, _⟩ := hrow2.row.slice; have hb2 := grows Hz1.out hb20; have q0 := (hb2.cell (p := ⟨g, o, none⟩) hg).trans c0; have q1 := (hb2.cell (p := ⟨g, o + 1, none⟩) hg).trans c1; have q0a : (World.alloc w2 (.cells #[.string ⟨#[]⟩, .bool false, .slice none 0 0] 108)).cell? ⟨g, o, none⟩ = some (.string K) := ((grows hb2 (grew w2 _)).cell (p := ⟨g, o, none⟩) hg).trans c0; have q1a : (World.alloc w2 (.cells #[.string ⟨#[]⟩, .bool false, .slice none 0 0] 108)).cell? ⟨g, o + 1, none⟩ = some (.string B) := ((grows hb2 (grew w2 _)).cell (p := ⟨g, o + 1, none⟩) hg).trans c1; have HRow2 := Lib.hid hrow2; clear hrow2 hb20)
    | (go_simp; go_at_call 85; (with_reducible refine (HD.out (World.drew (World.alloc w1 (.cells #[.string ⟨#[]⟩, .bool false, .slice none 0 0] 108)))).mono ?_); rintro e w2 ⟨⟨v2, rfl, hrow2⟩, hb20⟩; obtain ⟨a2, cap2, rfl, _, _⟩ := hrow2.row.slice; have hb2 := grows Hz2.out hb20; have q0 := (hb2.cell (p := ⟨g, o, none⟩) hg).trans c0; have q1 := (hb2.cell (p := ⟨g, o + 1, none⟩) hg).trans c1; have q0a : (World.alloc w2 (.cells #[.string ⟨#[]⟩, .bool false, .slice none 0 0] 108)).cell? ⟨g, o, none⟩ = some (.string K) := ((grows hb2 (grew w2 _)).cell (p := ⟨g, o, none⟩) hg).trans c0; have q1a : (World.alloc w2 (.cells #[.string ⟨#[]⟩, .bool false, .slice none 0 0] 108)).cell? ⟨g, o + 1, none⟩ = some (.string B) := ((grows hb2 (grew w2 _)).cell (p := ⟨g, o + 1, none⟩) hg).trans c1; have HRow2 := Lib.hid hrow2; have HT2 := Lib.hid (keep HTz.out hb20); obtain ⟨t0, t1, t2, tf0, tf1, tf2⟩ := cells3 HT2.out; clear hrow2 hb20))
  all_goals
    first
      | (have hL := Laid.ahead (K := K) HB.out hb hb2 HT2.out HRow2.out
         unfold set3 at hL
         clear t0 t1 t2 tf0 tf1 tf2
         generalize ((w2.setCell ⟨w1.heap.size, 0, none⟩ (.string K)).setCell ⟨w1.heap.size, 1, none⟩ (.bool false)).setCell ⟨w1.heap.size, 2, none⟩ (.slice a2 vs.length cap2) = W at hL ⊢
         generalize w1.heap.size = T at hL ⊢)
      | (have hL := Laid.behind (K := K) HB.out hb hb2 HRow2.out
         generalize w2.alloc (.cells #[.string K, .bool false, .slice a2 vs.length cap2] 108) = W at hL ⊢
         generalize w2.heap.size = T at hL ⊢)
    have HLd := Lib.hid hL
    have hT := hL.block
    have hA := hL.result
    have hlt := hL.apart
    obtain ⟨t0, t1, t2, tf0, tf1, tf2⟩ := cells3 hT
    clear hL q0 q1 q0a q1a c0 c1 c0a c1a hb2 hb
    have hT1 : (W.setCell ⟨T, 0, none⟩ (.string K2)).heap[T]? = some (.cells #[.string K2, .bool false, (.slice a2 vs.length cap2)] 108) := heap_setCell_same W T 0 _ _ _ hT
    have hA1 : (W.setCell ⟨T, 0, none⟩ (.string K2)).heap[w.heap.size]? = _ := (heap_setCell_other _ _ _ _ (by simp; omega)).trans hA
    have hB1 : Below w.heap.size w (W.setCell ⟨T, 0, none⟩ (.string K2)) := HLd.out.below.setCell (Nat.le_of_lt hlt) _
    have hZ1 : W.heap.size ≤ (W.setCell ⟨T, 0, none⟩ (.string K2)).heap.size := by simp
    have hU1 := ((But.refl T W).set 0 (.string K2)).block
    obtain ⟨W1, hW1⟩ : ∃ x, W.setCell ⟨T, 0, none⟩ (.string K2) = x := ⟨_, rfl⟩
    rw [hW1] at hT1 hA1 hB1 hZ1 hU1
    have hT2 : (W1.setCell ⟨T, 1, none⟩ (.bool true)).heap[T]? = some (.cells #[.string K2, .bool true, (.slice a2 vs.length cap2)] 108) := heap_setCell_same _ T 1 _ _ _ hT1
    have hA2 : (W1.setCell ⟨T, 1, none⟩ (.bool true)).heap[w.heap.size]? = _ := (heap_setCell_other _ _ _ _ (by simp; omega)).trans hA1
    have hB2 : Below w.heap.size w (W1.setCell ⟨T, 1, none⟩ (.bool true)) := hB1.setCell (Nat.le_of_lt hlt) _
    have hZ2 : W1.heap.size ≤ (W1.setCell ⟨T, 1, none⟩ (.bool true)).heap.size := by simp
    have hU2 := ((But.refl T W1).set 1 (.bool true)).block
    obtain ⟨W2, hW2⟩ : ∃ x, W1.setCell ⟨T, 1, none⟩ (.bool true) = x := ⟨_, rfl⟩
    rw [hW2] at hT2 hA2 hB2 hZ2 hU2
    obtain ⟨_, _, _, _, p4, _⟩ := cells3 hT1
    obtain ⟨r0, r1, r2, _⟩ := cells3 hT2
    obtain ⟨d0, d1, d2, f0, f1, f2⟩ := cells3 hA2
    obtain ⟨e0, e1, e2, _⟩ := cells3 (set3_box hA2 (.string K2) (.bool true) (.slice a2 vs.length cap2))
    have HZ := Lib.hid (set3_below (a := .string K2) (b := .bool true) (c := (.slice a2 vs.length cap2)) (T := w.heap.size) hB2 (Nat.le_refl _))
    have HR : Hid (SNew w.heap.size (set3 w.heap.size (.string K2) (.bool true) (.slice a2 vs.length cap2) W2) (.slice a2 vs.length cap2) vs) := Lib.hid (HLd.out.row.stays (by unfold set3; simp; omega) (fun k hk h1 h2 => by
      have u3 := ((((But.refl w.heap.size W2).set 0 (.string K2)).set 1 (.bool true)).set 2 (.slice a2 vs.length cap2)).block k (by omega) h2
      exact u3.trans ((hU2 k (by omega) h1).trans (hU1 k hk h1))))
    clear hU1 hU2 hB1 hB2 hZ1 hZ2 hA1
    unfold set3 at e0 e1 e2 HZ HR
    clear hA hT hT1 hT2 hA2
    go_wp2
    refine bodyPost_ret (v := .agg #[.string K2, .bool true, (.slice a2 vs.length cap2)]) (by simp [results, Tryz.results86, go_sem, e0, e1, e2]) rfl ?_
    exact ⟨⟨_, rfl, _, rfl, HR.out⟩, HZ.out⟩
end Go.Proofs.YtbilkeadhflibaaGreatDoor.Sel
