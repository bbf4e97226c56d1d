/- What sha.Parse answers of any text: the bytes whose digits it is, or nothing and false, if there are none; of memory that was there nothing turns. -/
import Derived.Test.YthknghbopfmlpaaDoorHHex
import Derived.Test.YthknghbopfmlpaaDoorHShelf
namespace Go.Proofs.YthknghbopfmlpaaDoor.Sha
open Go.RowKit

def digsL : List UInt8 := [48, 49, 50, 51, 52, 53, 54, 55, 56, 57, 97, 98, 99, 100, 101, 102]
/-- What IndexByte tells of a byte among the digits. -/
def undB (n : Nat) : Bool := (Lib.indexByte digsL n.toUInt8 == -1 && (List.range 16).all fun m => dig m != n.toUInt8) || (List.range 16).any fun m : Nat => Lib.indexByte digsL n.toUInt8 == (m : Int) && dig m == n.toUInt8
set_option maxRecDepth 100000 in
theorem und_all : ((List.range 256).all undB) = true := by decide +kernel
theorem und (c : UInt8) : (Lib.indexByte digsL c = -1 ∧ ∀ m, m < 16 → dig m ≠ c) ∨ ∃ m : Nat, m < 16 ∧ Lib.indexByte digsL c = (m : Int) ∧ dig m = c := by
  have h := List.all_eq_true.1 und_all c.toNat (List.mem_range.2 (UInt8.toNat_lt _))
  have e : c.toNat.toUInt8 = c := by simp
  unfold undB at h
  rw [e, Bool.or_eq_true] at h
  rcases h with h | h
  · rw [Bool.and_eq_true] at h
    exact .inl ⟨beq_iff_eq.1 h.1, fun m hm => by have := List.all_eq_true.1 h.2 m (List.mem_range.2 hm); simpa using this⟩
  · obtain ⟨m, hm, h⟩ := List.any_eq_true.1 h
    rw [Bool.and_eq_true] at h
    exact .inr ⟨m, List.mem_range.1 hm, beq_iff_eq.1 h.1, beq_iff_eq.1 h.2⟩

theorem index_any (c : UInt8) (w : World) : Calls Tryd.prog 15 #[.string ⟨#[48, 49, 50, 51, 52, 53, 54, 55, 56, 57, 97, 98, 99, 100, 101, 102]⟩, .int .u8 (c.toNat : Int)] w fun e w' => e = .returned (.int .i64 (Lib.indexByte digsL c)) ∧ w = w' := by
  refine (Any.strings_IndexByte Laid.lays137 ⟨#[48, 49, 50, 51, 52, 53, 54, 55, 56, 57, 97, 98, 99, 100, 101, 102]⟩ (c.toNat : Int) w).mono ?_
  rintro e w' ⟨rfl, rfl⟩
  refine ⟨?_, rfl⟩
  have e : ((c.toNat : Int)).toNat.toUInt8 = c := by simp
  rw [e]
  rfl

theorem hexL_at (x : List UInt8) (k : Nat) (h : k < x.length) : (hexL x)[2 * k]? = some (dig (x[k].toNat / 16)) ∧ (hexL x)[2 * k + 1]? = some (dig (x[k].toNat % 16)) := by
  have e := hexL_drop x k
  rw [List.drop_eq_getElem_cons h, hexL_cons] at e
  constructor
  · have := congrArg (fun l => l[0]?) e
    simp only [List.getElem?_drop, Nat.add_zero] at this
    rw [← this]; rfl
  · have := congrArg (fun l => l[1]?) e
    simp only [List.getElem?_drop] at this
    rw [← this]; rfl
theorem no_odd {t : List UInt8} (h : t.length % 2 = 1) : ∀ x, hexL x ≠ t := fun x e => by
  rw [← e, hexL_len] at h; omega
theorem no_high {t : List UInt8} {k : Nat} {c : UInt8} (hc : t[2 * k]? = some c) (hno : ∀ m, m < 16 → dig m ≠ c) : ∀ x, hexL x ≠ t := fun x e => by
  have hl : 2 * k < t.length := (List.getElem?_eq_some_iff.1 hc).1
  have hx : k < x.length := by rw [← e, hexL_len] at hl; omega
  have := (hexL_at x k hx).1
  rw [e, hc] at this
  injection this with this
  have hb : x[k].toNat < 256 := UInt8.toNat_lt _
  exact hno _ (by omega) this.symm
theorem no_low {t : List UInt8} {k : Nat} {c : UInt8} (hc : t[2 * k + 1]? = some c) (hno : ∀ m, m < 16 → dig m ≠ c) : ∀ x, hexL x ≠ t := fun x e => by
  have hl : 2 * k + 1 < t.length := (List.getElem?_eq_some_iff.1 hc).1
  have hx : k < x.length := by rw [← e, hexL_len] at hl; omega
  have := (hexL_at x k hx).2
  rw [e, hc] at this
  injection this with this
  exact hno _ (by omega) this.symm
set_option maxRecDepth 100000 in
theorem or_all : ((List.range 16).all fun a => (List.range 16).all fun b => bits .or .i64 ((a : Int) * 16) (b : Int) == ((a * 16 + b : Nat) : Int)) = true := by decide +kernel
theorem or_four (a b : Nat) (ha : a < 16) (hb : b < 16) : bits .or .i64 ((a : Int) * 16) (b : Int) = ((a * 16 + b : Nat) : Int) :=
  beq_iff_eq.1 (List.all_eq_true.1 (List.all_eq_true.1 or_all a (List.mem_range.2 ha)) b (List.mem_range.2 hb))

/-- What Parse hands back: P6.2. -/
def Parsed (t : List UInt8) (w : World) (e : Ending) (w' : World) : Prop :=
  ((∃ x, hexL x = t ∧ e = .returned (.tuple #[.string (str x), .bool true])) ∨ ((∀ x, hexL x ≠ t) ∧ e = .returned (.tuple #[.string ⟨#[]⟩, .bool false]))) ∧ Below w.heap.size w w'
theorem getOf (s : ByteArray) (k : Nat) (h : k < s.size) : s.data.toList[k]? = some s[k] := by
  rw [List.getElem?_eq_getElem (by rw [size_list]; exact h)]; rfl

set_option maxHeartbeats 1000000 in
set_option maxRecDepth 100000 in
theorem parse_any (s : ByteArray) (hs : s.size ≤ 281474976710656) (w : World) :
    Calls Tryd.prog 9 #[.string s] w (Parsed s.data.toList w) := by
  by_cases h2 : s.size % 2 = 0
  · obtain ⟨w1, hmk, hown1, hb1⟩ := make_owns w (s.size / 2) (by omega)
    obtain ⟨m, hm⟩ : ∃ m, s.size / 2 = m := ⟨_, rfl⟩
    have hmz : (s.size : Int) / 2 = (m : Int) := by omega
    have h2z : (s.size : Int) % 2 = 0 := by omega
    rw [hm] at hmk hown1
    have hsm : s.size = 2 * m := by omega
    have HM := Lib.hid hsm
    have HN : Hid (∀ {k : Nat} {c : UInt8} (w' : World), s.data.toList[2 * k]? = some c → (∀ m, m < 16 → dig m ≠ c) → Below w.heap.size w w' → Parsed s.data.toList w (.returned (.tuple #[.string ⟨#[]⟩, .bool false])) w') := Lib.hid fun w' hc hno hb => ⟨.inr ⟨no_high hc hno, rfl⟩, hb⟩
    have HL : Hid (∀ {k : Nat} {c : UInt8} (w' : World), s.data.toList[2 * k + 1]? = some c → (∀ m, m < 16 → dig m ≠ c) → Below w.heap.size w w' → Parsed s.data.toList w (.returned (.tuple #[.string ⟨#[]⟩, .bool false])) w') := Lib.hid fun w' hc hno hb => ⟨.inr ⟨no_low hc hno, rfl⟩, hb⟩
    obtain ⟨g, hg⟩ : ∃ g, g = w.heap.size := ⟨_, rfl⟩
    have hown1' : Owns w1 w.heap.size g m [] := by rw [hg]; exact hown1
    rw [← hg] at hmk
    have hwg : w.heap.size ≤ g := Nat.le_of_eq hg.symm
    clear hg hown1 hm h2 hsm
    go_enter Tryd.func9, Tryd.ntmps9
    go_wp2
    clear hmk h2z hmz
    go_loopw [4, 5] (fun v i wr => ∃ (j k : Nat) (acc : List UInt8), j = 2 * k ∧ k ≤ m ∧ i = .int .i64 (j : Int) ∧ acc.length = k ∧ v = .slice (some ⟨g, 0, none⟩) k m ∧ Owns wr w.heap.size g m acc ∧ hexL acc = s.data.toList.take (2 * k) ∧ Below w.heap.size w wr) (fun _ i _ => 2 * m - (intOf i).toNat)
    case atStart => exact ⟨0, 0, [], rfl, Nat.zero_le _, rfl, rfl, rfl, hown1', rfl, hb1⟩
    case round =>
      obtain ⟨j, k, acc, hj, hk, rfl, hacc, rfl, hown, hhex, hb⟩ := hrel
      have HH := Lib.hid hhex
      have HA := Lib.hid hacc
      have hjz : (j : Int) ≤ 281474976710656 := by have := HM.out; omega
      have HJ := Lib.hid hj
      by_cases hlt : k < m
      · have hltz : (j : Int) < (s.size : Int) := by have := HM.out; omega
        have hlt1 : (j : Int) + 1 < (s.size : Int) := by have := HM.out; omega
        have hl0 : j < s.size := by omega
        have hl1 : j + 1 < s.size := by omega
        have G0 := Lib.hid (getOf s j hl0)
        have G1 := Lib.hid (getOf s (j + 1) hl1)
        have HT : Hid (s.data.toList.take (2 * (k + 1)) = s.data.toList.take (2 * k) ++ [s[j], s[j + 1]]) := Lib.hid (by
          have e0 := take_snoc s j hl0
          have e1 := take_snoc s (j + 1) hl1
          rw [show 2 * (k + 1) = j + 1 + 1 by omega, show 2 * k = j from hj.symm, e1, e0, List.append_assoc]; rfl)
        obtain ⟨c, hc⟩ : ∃ c, s[j] = c := ⟨_, rfl⟩
        obtain ⟨d, hd⟩ : ∃ d, s[j + 1] = d := ⟨_, rfl⟩
        rw [hc] at G0 HT
        rw [hd] at G1 HT
        have I0 := Lib.hid (index_any c wr)
        have I1 := Lib.hid (index_any d wr)
        clear hhex hacc hj
        rcases und c with ⟨hu, hno⟩ | ⟨a, ha, hu, hda⟩
        · rw [hu] at I0
          rw [HJ.out] at G0
          have HF := Lib.hid (HN.out wr G0.out hno hb)
          clear hu hno
          rcases und d with ⟨hv, _⟩ | ⟨b, _, hv, _⟩
          all_goals
            rw [hv] at I1
            clear hv
            go_wp2_with fail
            with_reducible refine I0.out.mono ?_
            rintro e w2 ⟨rfl, rfl⟩
            go_wp2_with fail
            with_reducible refine I1.out.mono ?_
            rintro e w2 ⟨rfl, rfl⟩
            go_wp2
            go_ret2
            exact HF.out
        · rcases und d with ⟨hv, hno⟩ | ⟨b, hbb, hv, hdb⟩
          · rw [hu] at I0
            rw [hv] at I1
            rw [HJ.out] at G1
            have HF := Lib.hid (HL.out wr G1.out hno hb)
            have hna : ¬ (a : Int) < 0 := by omega
            clear hu hv hno hda
            go_wp2_with fail
            with_reducible refine I0.out.mono ?_
            rintro e w2 ⟨rfl, rfl⟩
            go_wp2_with fail
            with_reducible refine I1.out.mono ?_
            rintro e w2 ⟨rfl, rfl⟩
            go_wp2
            go_ret2
            exact HF.out
          · rw [hu] at I0
            rw [hv] at I1
            have hna : ¬ (a : Int) < 0 := by omega
            have hnb : ¬ (b : Int) < 0 := by omega
            have hor := or_four a b ha hbb
            obtain ⟨x, hx⟩ : ∃ x : UInt8, x.toNat = a * 16 + b := ⟨(a * 16 + b).toUInt8, by simp; omega⟩
            rw [← hx] at hor
            have hx8 : x.toNat < 256 := UInt8.toNat_lt _
            have HX : Hid (hexL (acc ++ [x]) = s.data.toList.take (2 * (k + 1))) := Lib.hid (by
              rw [hexL_snoc, HH.out, HT.out, show x.toNat / 16 = a by omega, show x.toNat % 16 = b by omega, hda, hdb])
            have hb3 : Below w.heap.size w (World.alloc wr (.cells #[.int .u8 (x.toNat : Int)] 5)) := hb.alloc hb.size _
            clear hu hv hda hdb hx
            go_wp2_with fail
            with_reducible refine I0.out.mono ?_
            rintro e w2 ⟨rfl, rfl⟩
            go_wp2_with fail
            with_reducible refine I1.out.mono ?_
            rintro e w2 ⟨rfl, rfl⟩
            go_wp2_with (at_builtin; refine append_fits _ rfl _ _ rfl w.heap.size g m acc k HA.out rfl (hown.alloc _) ⟨wr.heap.size, 0, none⟩ 1 1 [x] rfl rfl (built wr _ _) (by have := HA.out; omega) ?_; intro w5 hown5 hgr5)
            have b5 : Below w.heap.size w w5 := grown hb3 hgr5 hb3.size hwg
            clear hgr5
            clear hc hd hor hown
            go_wp2
            go_roundw
            case rel => exact ⟨j + 2, k + 1, acc ++ [x], by have := HJ.out; omega, by omega, by go_num, by rw [List.length_append, HA.out]; rfl, by go_num, hown5, HX.out, b5⟩
            case measure => have := HJ.out; simp [intOf]; omega
      · obtain rfl : k = m := by omega
        have hcv := conv_owns hown
        rw [HA.out] at hcv
        have HF : Hid (Parsed s.data.toList w (.returned (.tuple #[.string (str acc), .bool true])) wr) := Lib.hid ⟨.inl ⟨acc, by rw [HH.out, List.take_of_length_le (by rw [size_list, HM.out]; omega)], rfl⟩, hb⟩
        have hge : ¬ (j : Int) < (s.size : Int) := by have := HM.out; omega
        clear hhex hacc hj hown
        go_wp2
        go_ret2
        exact HF.out
  · have h2z : (s.size : Int) % 2 = 1 := by omega
    have HF : Hid (Parsed s.data.toList w (.returned (.tuple #[.string ⟨#[]⟩, .bool false])) w) := Lib.hid ⟨.inr ⟨no_odd (by rw [size_list]; omega), rfl⟩, Below.refl _ _⟩
    clear h2
    go_enter Tryd.func9, Tryd.ntmps9
    go_wp2
    go_ret2
    exact HF.out
end Go.Proofs.YthknghbopfmlpaaDoor.Sha
