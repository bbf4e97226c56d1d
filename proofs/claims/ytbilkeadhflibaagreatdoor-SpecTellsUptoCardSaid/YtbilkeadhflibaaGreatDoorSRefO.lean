/- What the document's own one tells of any piece that is not too long for a machine; of memory that was there nothing turns. -/
import Derived.Test.YtbilkeadhflibaaGreatDoorSRef5
import Derived.Test.YtbilkeadhflibaaGreatDoorJL4
import Derived.Deep.RegionLaw
namespace Go.Proofs.YtbilkeadhflibaaGreatDoor.Sel
open Go.RowKit Go.Proofs.YtbilkeadhflibaaGreatDoor.Texts Go.Proofs.YtbilkeadhflibaaGreatDoor.Word Go.Proofs.YtbilkeadhflibaaGreatDoor.Forms Go.Proofs.YtbilkeadhflibaaGreatDoor.Boxes Go.Proofs.YtbilkeadhflibaaGreatDoor.Label

def OneR (t : Tm) (w : World) (e : Ending) (w' : World) : Prop := (∃ v, e = .returned v ∧ TNew w.heap.size w' v t) ∧ Below w.heap.size w w'
set_option maxHeartbeats 1000000 in
set_option maxRecDepth 100000 in
theorem one_ahead (s : ByteArray) (k : ByteArray) (h0 : 0 < s.size) (h33 : s[0]'h0 = 33) (hk : s.extract 1 s.size = k) (hs : s.size ≤ 1048576) (w : World) :
    Calls Tryz.prog 86 #[.string s] w (OneR (k, true, []) w) := by
  have hz : (0 : Int) < (s.size : Int) := by omega
  have h1 : (1 : Int) ≤ (s.size : Int) := by omega
  obtain ⟨d, hd⟩ : ∃ d, s[0]'h0 = d := ⟨_, rfl⟩
  have hq : ((d.toNat : Int) == 33) = true := by rw [← hd, h33]; rfl
  obtain ⟨e0, e1, e2, _⟩ := cells3 (fresh w (.cells #[.string k, .bool true, .slice none 0 0] 108))
  have hb := grew w (.cells #[.string k, .bool true, .slice none 0 0] 108)
  clear h33
  go_enter Tryz.func86, Tryz.ntmps86
  go_wp2
  refine bodyPost_ret (v := .agg #[.string k, .bool true, (.slice none 0 0)]) (by simp [results, Tryz.results86, go_sem, e0, e1, e2]) rfl ?_
  exact ⟨⟨_, rfl, _, rfl, SNew.nil _ _⟩, hb⟩
set_option maxHeartbeats 1000000 in
set_option maxRecDepth 100000 in
theorem one_none (s : ByteArray) (h0 : s.size = 0) (w : World) (n : Nat) (hn : n ≠ 2)
    (HC : Hid (∀ W, Calls Tryz.prog 85 #[.string s, .int .u8 61] W fun e w' => (∃ a cap, e = .returned (.slice a n cap)) ∧ Below W.heap.size W w')) :
    Calls Tryz.prog 86 #[.string s] w (OneR (s, false, []) w) := by
  have hz0 : ¬ (0 : Int) < (s.size : Int) := by omega
  have hz1 : decide ((0 : Int) < (s.size : Int)) = false := decide_eq_false hz0
  have hz2 : decide (0 < s.size) = false := decide_eq_false (by omega)
  clear h0
  have hne : ((n : Int) != 2) = true := by simp; omega
  have hne' : ((n : Int) == 2) = false := by simp; omega
  clear hn
  go_enter Tryz.func86, Tryz.ntmps86
  go_wp2_with fail
  with_reducible refine (HC.out _).mono ?_
  rintro e w1 ⟨⟨a, cap, rfl⟩, hb1⟩
  have hb := grows (grew w _) hb1
  have hB := keep (fresh w _) hb1
  obtain ⟨d0, d1, d2, f0, f1, f2⟩ := cells3 hB
  obtain ⟨e0, e1, e2, _⟩ := cells3 (set3_box hB (.string s) (.bool false) (.slice none 0 0))
  have hz := set3_below (a := .string s) (b := .bool false) (c := (.slice none 0 0)) (T := w.heap.size) hb (Nat.le_refl _)
  clear hb1
  unfold set3 at e0 e1 e2 hz
  clear hB
  go_wp2
  refine bodyPost_ret (v := .agg #[.string s, .bool false, (.slice none 0 0)]) (by simp [results, Tryz.results86, go_sem, e0, e1, e2]) rfl ?_
  exact ⟨⟨_, rfl, _, rfl, SNew.nil _ _⟩, hz⟩
set_option maxHeartbeats 1000000 in
set_option maxRecDepth 100000 in
theorem one_bare (s : ByteArray) (h0 : 0 < s.size) (h33 : ¬ s[0]'h0 = 33) (w : World) (n : Nat) (hn : n ≠ 2)
    (HC : Hid (∀ W, Calls Tryz.prog 85 #[.string s, .int .u8 61] W fun e w' => (∃ a cap, e = .returned (.slice a n cap)) ∧ Below W.heap.size W w')) :
    Calls Tryz.prog 86 #[.string s] w (OneR (s, false, []) w) := by
  have hz : (0 : Int) < (s.size : Int) := by omega
  obtain ⟨d, hd⟩ : ∃ d, s[0]'h0 = d := ⟨_, rfl⟩
  have hq : ((d.toNat : Int) == 33) = false := by rw [beq_eq_false_iff_ne]; intro h; exact h33 (by rw [hd]; exact UInt8.toNat_inj.1 (by show d.toNat = 33; omega))
  clear h33
  have hne : ((n : Int) != 2) = true := by simp; omega
  have hne' : ((n : Int) == 2) = false := by simp; omega
  clear hn
  go_enter Tryz.func86, Tryz.ntmps86
  go_wp2_with fail
  with_reducible refine (HC.out _).mono ?_
  rintro e w1 ⟨⟨a, cap, rfl⟩, hb1⟩
  have hb := grows (grew w _) hb1
  have hB := keep (fresh w _) hb1
  obtain ⟨d0, d1, d2, f0, f1, f2⟩ := cells3 hB
  obtain ⟨e0, e1, e2, _⟩ := cells3 (set3_box hB (.string s) (.bool false) (.slice none 0 0))
  have hz := set3_below (a := .string s) (b := .bool false) (c := (.slice none 0 0)) (T := w.heap.size) hb (Nat.le_refl _)
  clear hb1
  unfold set3 at e0 e1 e2 hz
  clear hB
  go_wp2
  refine bodyPost_ret (v := .agg #[.string s, .bool false, (.slice none 0 0)]) (by simp [results, Tryz.results86, go_sem, e0, e1, e2]) rfl ?_
  exact ⟨⟨_, rfl, _, rfl, SNew.nil _ _⟩, hz⟩

/-- A slice of texts whose row stands in neither of two blocks. -/
def SApart (T R : Nat) (w : World) (v : Value) (ts : List ByteArray) : Prop := SRow w v ts ∧ ∀ g o n c, v = .slice (some ⟨g, o, none⟩) n c → ts ≠ [] → g ≠ T ∧ R < g
theorem SApart.stays {T R : Nat} {w w' : World} {v : Value} {ts : List ByteArray} (h : SApart T R w v ts) (hz : w.heap.size ≤ w'.heap.size) (hk : ∀ k, k < w.heap.size → k ≠ T → k ≠ R → w'.heap[k]? = w.heap[k]?) : SNew R w' v ts := by
  refine ⟨?_, fun g o n c e hn => Nat.le_of_lt (h.2 g o n c e hn).2⟩
  rcases h.1 with h1 | ⟨h0, g, o, cap, h1, h2, h3, h4, h5⟩
  · exact .inl h1
  · obtain ⟨n1, n2⟩ := h.2 g o _ _ h1 h0
    refine .inr ⟨h0, g, o, cap, h1, by omega, h3, h4, fun j t hj => ?_⟩
    rw [World.cell?_of_block (w := w) (a := ⟨g, o + j, none⟩) (hk g h2 n1 (by omega))]
    exact h5 j t hj
/-- What is known where a term has been laid in a block of its own. -/
structure Laid (w : World) (K : ByteArray) (a : Option Addr) (cap : Nat) (vs : List ByteArray) (T : Nat) (W : World) : Prop where
  block : W.heap[T]? = some (.cells #[.string K, .bool false, .slice a vs.length cap] 108)
  result : W.heap[w.heap.size]? = some (.cells #[.string ⟨#[]⟩, .bool false, .slice none 0 0] 108)
  apart : w.heap.size < T
  below : Below w.heap.size w W
  row : SApart T w.heap.size W (.slice a vs.length cap) vs
theorem Laid.behind {w w1 w2 : World} {K : ByteArray} {a : Option Addr} {cap : Nat} {vs : List ByteArray} (hB : w1.heap[w.heap.size]? = some (.cells #[.string ⟨#[]⟩, .bool false, .slice none 0 0] 108)) (hb : Below w.heap.size w w1) (hb2 : Below w1.heap.size w1 w2)
    (hr : SNew (World.drew w1).heap.size w2 (.slice a vs.length cap) vs) : Laid w K a cap vs w2.heap.size (w2.alloc (.cells #[.string K, .bool false, .slice a vs.length cap] 108)) := by
  have h1 := lt_of hB
  have h2 := hb2.size
  refine ⟨fresh _ _, keep (keep hB hb2) (old _ _), by omega, grows (grows hb hb2) (old _ _), hr.1.below (old _ _), fun g o n c e hn => ?_⟩
  have h3 : w1.heap.size ≤ g := hr.2 g o n c e hn
  have h4 : g < w2.heap.size := by
    rcases hr.1 with ⟨h, _⟩ | ⟨_, g', o', cap', he, hg, _⟩
    · exact absurd h hn
    · rw [he] at e
      injection e with e1 _ _
      injection e1 with e1
      injection e1 with e1 _ _
      omega
  omega
theorem Laid.ahead {w w1 w2 : World} {K : ByteArray} {a : Option Addr} {cap : Nat} {vs : List ByteArray} (hB : w1.heap[w.heap.size]? = some (.cells #[.string ⟨#[]⟩, .bool false, .slice none 0 0] 108)) (hb : Below w.heap.size w w1) (hb2 : Below w1.heap.size w1 w2)
    (hT : w2.heap[w1.heap.size]? = some (.cells #[.string ⟨#[]⟩, .bool false, .slice none 0 0] 108))
    (hr : SNew (World.drew (World.alloc w1 (.cells #[.string ⟨#[]⟩, .bool false, .slice none 0 0] 108))).heap.size w2 (.slice a vs.length cap) vs) : Laid w K a cap vs w1.heap.size (set3 w1.heap.size (.string K) (.bool false) (.slice a vs.length cap) w2) := by
  have h1 := lt_of hB
  have hz : (World.drew (World.alloc w1 (.cells #[.string ⟨#[]⟩, .bool false, .slice none 0 0] 108))).heap.size = w1.heap.size + 1 := size_alloc _ _
  rw [hz] at hr
  have hbut : But w1.heap.size w2 (set3 w1.heap.size (.string K) (.bool false) (.slice a vs.length cap) w2) := (((But.refl _ _).set 0 _).set 1 _).set 2 _
  refine ⟨set3_box hT _ _ _, hbut.keep (keep hB hb2) (by omega), h1, set3_below (grows hb hb2) (by omega), (hr.but hbut (by omega)).1, fun g o n c e hn => ?_⟩
  have h3 := hr.2 g o n c e hn
  omega
set_option maxHeartbeats 4000000 in
set_option maxRecDepth 100000 in
theorem one_empty (s K B : ByteArray) (hK : K.size = 0) (hs : s.size ≤ 1048576) (h0 : 0 < s.size) (h33 : ¬ s[0]'h0 = 33) (w : World) (vs : List ByteArray)
    (HC : Hid (∀ W, Calls Tryz.prog 85 #[.string s, .int .u8 61] W fun e w' => (∃ v, e = .returned v ∧ SRow w' v [K, B]) ∧ Below W.heap.size W w'))
    (HD : Hid (∀ W, Calls Tryz.prog 85 #[.string B, .int .u8 124] W fun e w' => (∃ v, e = .returned v ∧ SNew W.heap.size w' v vs) ∧ Below W.heap.size W w')) :
    Calls Tryz.prog 86 #[.string s] w (OneR (K, false, vs) w) := by
  have hz : (0 : Int) < (s.size : Int) := by omega
  obtain ⟨d, hd⟩ : ∃ d, s[0]'h0 = d := ⟨_, rfl⟩
  have hq : ((d.toNat : Int) == 33) = false := by rw [beq_eq_false_iff_ne]; intro h; exact h33 (by rw [hd]; exact UInt8.toNat_inj.1 (by show d.toNat = 33; omega))
  clear h33
  have hk0 : ¬ (0 : Int) < (K.size : Int) := by omega
  have hk1 : decide ((0 : Int) < (K.size : Int)) = false := decide_eq_false hk0
  have hk2 : decide (0 < K.size) = false := decide_eq_false (by omega)
  clear hK
  go_enter Tryz.func86, Tryz.ntmps86
  go_wp2_with fail
  with_reducible refine (HC.out _).mono ?_
  rintro e w1 ⟨⟨v, rfl, hrow⟩, hb1⟩
  obtain ⟨a, cap, hv, _, _⟩ := hrow.slice
  change v = .slice a 2 cap at hv
  subst hv
  obtain ⟨g, o, rfl, hg, hcell⟩ := hrow.cells (k := 0) (by simp)
  have c0 : w1.cell? ⟨g, o, none⟩ = some (.string K) := hcell 0 K rfl
  have c1 : w1.cell? ⟨g, o + 1, none⟩ = some (.string B) := hcell 1 B rfl
  have hB := keep (fresh w _) hb1
  have hb := grows (grew w _) hb1
  have HB := Lib.hid hB
  clear hrow hcell hB
  go_wp2_with fail
  have hz1 : Below w1.heap.size w1 (World.drew w1) := (Below.refl _ _).drew
  have hz2 : Below w1.heap.size w1 (World.drew (World.alloc w1 (.cells #[.string ⟨#[]⟩, .bool false, .slice none 0 0] 108))) := (grew w1 _).drew
  have hTz : (World.drew (World.alloc w1 (.cells #[.string ⟨#[]⟩, .bool false, .slice none 0 0] 108))).heap[w1.heap.size]? = some (.cells #[.string ⟨#[]⟩, .bool false, .slice none 0 0] 108) := fresh w1 _
  have HTz := Lib.hid hTz
  have c0a : (World.alloc w1 (.cells #[.string ⟨#[]⟩, .bool false, .slice none 0 0] 108)).cell? ⟨g, o, none⟩ = some (.string K) := ((grew w1 _).cell (p := ⟨g, o, none⟩) hg).trans c0
  have c1a : (World.alloc w1 (.cells #[.string ⟨#[]⟩, .bool false, .slice none 0 0] 108)).cell? ⟨g, o + 1, none⟩ = some (.string B) := ((grew w1 _).cell (p := ⟨g, o + 1, none⟩) hg).trans c1
  have Hz1 := Lib.hid hz1
  have Hz2 := Lib.hid hz2
  clear hz1 hz2 hTz
  go_region_law (first
    | (go_simp; go_at_call 85; (with_reducible refine (HD.out (World.drew w1)).mono ?_); rintro e w2 ⟨⟨v2, rfl, hrow2⟩, hb20⟩; obtain ⟨a2, cap2, rfl, _, _⟩ := hrow2.row.slice; have hb2 := grows Hz1.out hb20; have q0 := (hb2.cell (p := ⟨g, o, none⟩) hg).trans c0; have q1 := (hb2.cell (p := ⟨g, o + 1, none⟩) hg).trans c1; have q0a : (World.alloc w2 (.cells #[.string ⟨#[]⟩, .bool false, .slice none 0 0] 108)).cell? ⟨g, o, none⟩ = some (.string K) := ((grows hb2 (grew w2 _)).cell (p := ⟨g, o, none⟩) hg).trans c0; have q1a : (World.alloc w2 (.cells #[.string ⟨#[]⟩, .bool false, .slice none 0 0] 108)).cell? ⟨g, o + 1, none⟩ = some (.string B) := ((grows hb2 (grew w2 _)).cell (p := ⟨g, o + 1, none⟩) hg).trans c1; have HRow2 := Lib.hid hrow2; clear hrow2 hb20)
    | (go_simp; go_at_call 85; (with_reducible refine (HD.out (World.drew (World.alloc w1 (.cells #[.string ⟨#[]⟩, .bool false, .slice none 0 0] 108)))).mono ?_); rintro e w2 ⟨⟨v2, rfl, hrow2⟩, hb20⟩; obtain ⟨a2, cap2, rfl, _, _⟩ := hrow2.row.slice; have hb2 := grows Hz2.out hb20; have q0 := (hb2.cell (p := ⟨g, o, none⟩) hg).trans c0; have q1 := (hb2.cell (p := ⟨g, o + 1, none⟩) hg).trans c1; have q0a : (World.alloc w2 (.cells #[.string ⟨#[]⟩, .bool false, .slice none 0 0] 108)).cell? ⟨g, o, none⟩ = some (.string K) := ((grows hb2 (grew w2 _)).cell (p := ⟨g, o, none⟩) hg).trans c0; have q1a : (World.alloc w2 (.cells #[.string ⟨#[]⟩, .bool false, .slice none 0 0] 108)).cell? ⟨g, o + 1, none⟩ = some (.string B) := ((grows hb2 (grew w2 _)).cell (p := ⟨g, o + 1, none⟩) hg).trans c1; have HRow2 := Lib.hid hrow2; have HT2 := Lib.hid (keep HTz.out hb20); obtain ⟨t0, t1, t2, tf0, tf1, tf2⟩ := cells3 HT2.out; clear hrow2 hb20))
  all_goals
    first
      | (have hL := Laid.ahead (K := K) HB.out hb hb2 HT2.out HRow2.out
         unfold set3 at hL
         clear t0 t1 t2 tf0 tf1 tf2
         generalize ((w2.setCell ⟨w1.heap.size, 0, none⟩ (.string K)).setCell ⟨w1.heap.size, 1, none⟩ (.bool false)).setCell ⟨w1.heap.size, 2, none⟩ (.slice a2 vs.length cap2) = W at hL ⊢
         generalize w1.heap.size = T at hL ⊢)
      | (have hL := Laid.behind (K := K) HB.out hb hb2 HRow2.out
         generalize w2.alloc (.cells #[.string K, .bool false, .slice a2 vs.length cap2] 108) = W at hL ⊢
         generalize w2.heap.size = T at hL ⊢)
    have HLd := Lib.hid hL
    have hT := hL.block
    have hA := hL.result
    have hlt := hL.apart
    obtain ⟨t0, t1, t2, tf0, tf1, tf2⟩ := cells3 hT
    clear hL q0 q1 q0a q1a c0 c1 c0a c1a hb2 hb
    obtain ⟨d0, d1, d2, f0, f1, f2⟩ := cells3 hA
    obtain ⟨e0, e1, e2, _⟩ := cells3 (set3_box hA (.string K) (.bool false) (.slice a2 vs.length cap2))
    have HZ := Lib.hid (set3_below (a := .string K) (b := .bool false) (c := (.slice a2 vs.length cap2)) (T := w.heap.size) HLd.out.below (Nat.le_refl _))
    have HR : Hid (SNew w.heap.size (set3 w.heap.size (.string K) (.bool false) (.slice a2 vs.length cap2) W) (.slice a2 vs.length cap2) vs) := Lib.hid (HLd.out.row.stays (by unfold set3; simp) (fun k _ _ h2 => ((((But.refl w.heap.size W).set 0 _).set 1 _).set 2 _).block k (by assumption) h2))
    unfold set3 at e0 e1 e2 HZ HR
    clear hA hT
    go_wp2
    refine bodyPost_ret (v := .agg #[.string K, .bool false, (.slice a2 vs.length cap2)]) (by simp [results, Tryz.results86, go_sem, e0, e1, e2]) rfl ?_
    exact ⟨⟨_, rfl, _, rfl, HR.out⟩, HZ.out⟩
set_option maxHeartbeats 4000000 in
set_option maxRecDepth 100000 in
theorem one_plain (s K B : ByteArray) (n : Nat) (hK : K.size = n + 1) (hKs : K.size ≤ 1048576) (hl : (((K[n]'(by omega)).toNat : Int) == 33) = false) (hs : s.size ≤ 1048576) (h0 : 0 < s.size) (h33 : ¬ s[0]'h0 = 33) (w : World) (vs : List ByteArray)
    (HC : Hid (∀ W, Calls Tryz.prog 85 #[.string s, .int .u8 61] W fun e w' => (∃ v, e = .returned v ∧ SRow w' v [K, B]) ∧ Below W.heap.size W w'))
    (HD : Hid (∀ W, Calls Tryz.prog 85 #[.string B, .int .u8 124] W fun e w' => (∃ v, e = .returned v ∧ SNew W.heap.size w' v vs) ∧ Below W.heap.size W w')) :
    Calls Tryz.prog 86 #[.string s] w (OneR (K, false, vs) w) := by
  have hz : (0 : Int) < (s.size : Int) := by omega
  obtain ⟨d, hd⟩ : ∃ d, s[0]'h0 = d := ⟨_, rfl⟩
  have hq : ((d.toNat : Int) == 33) = false := by rw [beq_eq_false_iff_ne]; intro h; exact h33 (by rw [hd]; exact UInt8.toNat_inj.1 (by show d.toNat = 33; omega))
  clear h33
  have hk0 : (0 : Int) < (K.size : Int) := by omega
  have hwk : IntKind.i64.wrap ((K.size : Int) - 1) = (n : Int) := by rw [IntKind.wrap_i64]; omega
  have hn0 : (0 : Int) ≤ (n : Int) := by omega
  have hn1 : n < K.size := by omega
  have hn2 : (n : Int) < (K.size : Int) := by omega
  have hn3 : (n : Int) ≤ (K.size : Int) := by omega
  obtain ⟨x, hx⟩ : ∃ x, K[n]'hn1 = x := ⟨_, rfl⟩
  have hq2 : ((x.toNat : Int) == 33) = false := by rw [← hx]; exact hl
  have HKN := Lib.hid hK
  clear hK hl
  go_enter Tryz.func86, Tryz.ntmps86
  go_wp2_with fail
  with_reducible refine (HC.out _).mono ?_
  rintro e w1 ⟨⟨v, rfl, hrow⟩, hb1⟩
  obtain ⟨a, cap, hv, _, _⟩ := hrow.slice
  change v = .slice a 2 cap at hv
  subst hv
  obtain ⟨g, o, rfl, hg, hcell⟩ := hrow.cells (k := 0) (by simp)
  have c0 : w1.cell? ⟨g, o, none⟩ = some (.string K) := hcell 0 K rfl
  have c1 : w1.cell? ⟨g, o + 1, none⟩ = some (.string B) := hcell 1 B rfl
  have hB := keep (fresh w _) hb1
  have hb := grows (grew w _) hb1
  have HB := Lib.hid hB
  clear hrow hcell hB
  go_wp2_with fail
  have hz1 : Below w1.heap.size w1 (World.drew w1) := (Below.refl _ _).drew
  have hz2 : Below w1.heap.size w1 (World.drew (World.alloc w1 (.cells #[.string ⟨#[]⟩, .bool false, .slice none 0 0] 108))) := (grew w1 _).drew
  have hTz : (World.drew (World.alloc w1 (.cells #[.string ⟨#[]⟩, .bool false, .slice none 0 0] 108))).heap[w1.heap.size]? = some (.cells #[.string ⟨#[]⟩, .bool false, .slice none 0 0] 108) := fresh w1 _
  have HTz := Lib.hid hTz
  have c0a : (World.alloc w1 (.cells #[.string ⟨#[]⟩, .bool false, .slice none 0 0] 108)).cell? ⟨g, o, none⟩ = some (.string K) := ((grew w1 _).cell (p := ⟨g, o, none⟩) hg).trans c0
  have c1a : (World.alloc w1 (.cells #[.string ⟨#[]⟩, .bool false, .slice none 0 0] 108)).cell? ⟨g, o + 1, none⟩ = some (.string B) := ((grew w1 _).cell (p := ⟨g, o + 1, none⟩) hg).trans c1
  have Hz1 := Lib.hid hz1
  have Hz2 := Lib.hid hz2
  clear hz1 hz2 hTz
  go_region_law (first
    | (go_simp; go_at_call 85; (with_reducible refine (HD.out (World.drew w1)).mono ?_); rintro e w2 ⟨⟨v2, rfl, hrow2⟩, hb20⟩; obtain ⟨a2, cap2, rfl, _, _⟩ := hrow2.row.slice; have hb2 := grows Hz1.out hb20; have q0 := (hb2.cell (p := ⟨g, o, none⟩) hg).trans c0; have q1 := (hb2.cell (p := ⟨g, o + 1, none⟩) hg).trans c1; have q0a : (World.alloc w2 (.cells #[.string ⟨#[]⟩, .bool false, .slice none 0 0] 108)).cell? ⟨g, o, none⟩ = some (.string K) := ((grows hb2 (grew w2 _)).cell (p := ⟨g, o, none⟩) hg).trans c0; have q1a : (World.alloc w2 (.cells #[.string ⟨#[]⟩, .bool false, .slice none 0 0] 108)).cell? ⟨g, o + 1, none⟩ = some (.string B) := ((grows hb2 (grew w2 _)).cell (p := ⟨g, o + 1, none⟩) hg).trans c1; have HRow2 := Lib.hid hrow2; clear hrow2 hb20)
    | (go_simp; go_at_call 85; (with_reducible refine (HD.out (World.drew (World.alloc w1 (.cells #[.string ⟨#[]⟩, .bool false, .slice none 0 0] 108)))).mono ?_); rintro e w2 ⟨⟨v2, rfl, hrow2⟩, hb20⟩; obtain ⟨a2, cap2, rfl, _, _⟩ := hrow2.row.slice; have hb2 := grows Hz2.out hb20; have q0 := (hb2.cell (p := ⟨g, o, none⟩) hg).trans c0; have q1 := (hb2.cell (p := ⟨g, o + 1, none⟩) hg).trans c1; have q0a : (World.alloc w2 (.cells #[.string ⟨#[]⟩, .bool false, .slice none 0 0] 108)).cell? ⟨g, o, none⟩ = some (.string K) := ((grows hb2 (grew w2 _)).cell (p := ⟨g, o, none⟩) hg).trans c0; have q1a : (World.alloc w2 (.cells #[.string ⟨#[]⟩, .bool false, .slice none 0 0] 108)).cell? ⟨g, o + 1, none⟩ = some (.string B) := ((grows hb2 (grew w2 _)).cell (p := ⟨g, o + 1, none⟩) hg).trans c1; have HRow2 := Lib.hid hrow2; have HT2 := Lib.hid (keep HTz.out hb20); obtain ⟨t0, t1, t2, tf0, tf1, tf2⟩ := cells3 HT2.out; clear hrow2 hb20))
  all_goals
    first
      | (have hL := Laid.ahead (K := K) HB.out hb hb2 HT2.out HRow2.out
         unfold set3 at hL
         clear t0 t1 t2 tf0 tf1 tf2
         generalize ((w2.setCell ⟨w1.heap.size, 0, none⟩ (.string K)).setCell ⟨w1.heap.size, 1, none⟩ (.bool false)).setCell ⟨w1.heap.size, 2, none⟩ (.slice a2 vs.length cap2) = W at hL ⊢
         generalize w1.heap.size = T at hL ⊢)
      | (have hL := Laid.behind (K := K) HB.out hb hb2 HRow2.out
         generalize w2.alloc (.cells #[.string K, .bool false, .slice a2 vs.length cap2] 108) = W at hL ⊢
         generalize w2.heap.size = T at hL ⊢)
    have HLd := Lib.hid hL
    have hT := hL.block
    have hA := hL.result
    have hlt := hL.apart
    obtain ⟨t0, t1, t2, tf0, tf1, tf2⟩ := cells3 hT
    clear hL q0 q1 q0a q1a c0 c1 c0a c1a hb2 hb
    obtain ⟨d0, d1, d2, f0, f1, f2⟩ := cells3 hA
    obtain ⟨e0, e1, e2, _⟩ := cells3 (set3_box hA (.string K) (.bool false) (.slice a2 vs.length cap2))
    have HZ := Lib.hid (set3_below (a := .string K) (b := .bool false) (c := (.slice a2 vs.length cap2)) (T := w.heap.size) HLd.out.below (Nat.le_refl _))
    have HR : Hid (SNew w.heap.size (set3 w.heap.size (.string K) (.bool false) (.slice a2 vs.length cap2) W) (.slice a2 vs.length cap2) vs) := Lib.hid (HLd.out.row.stays (by unfold set3; simp) (fun k _ _ h2 => ((((But.refl w.heap.size W).set 0 _).set 1 _).set 2 _).block k (by assumption) h2))
    unfold set3 at e0 e1 e2 HZ HR
    clear hA hT
    go_wp2
    refine bodyPost_ret (v := .agg #[.string K, .bool false, (.slice a2 vs.length cap2)]) (by simp [results, Tryz.results86, go_sem, e0, e1, e2]) rfl ?_
    exact ⟨⟨_, rfl, _, rfl, HR.out⟩, HZ.out⟩
end Go.Proofs.YtbilkeadhflibaaGreatDoor.Sel
