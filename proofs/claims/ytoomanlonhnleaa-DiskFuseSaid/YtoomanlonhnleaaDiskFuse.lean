/- Proved: demesnelaw09.DiskFuse answers true for every number, bytes, and whatever is kept, and leaves them as they were. No condition. -/
import Derived.Test.YtoomanlonhnleaaDLaws
import Derived.Test.YtoomanlonhnleaaArgs
namespace Go.Proofs.Ytoomanlonhnleaa.diskFuse
open Go.ChangeShapes Go.WideShapes Go.ChangeAt Go.RowKit
open Go.Proofs.Ytoomanlonhnleaa.Disk

/-- Ahead of round i: so far all went well, or power is lost. -/
structure St (M i : Nat) (keep : Int) (d : Dk) : Prop where
  at_ : (i ≤ M ∧ Well d (M - i) i keep) ∨ (i = M + 1 ∧ d.down = true ∧ d.fuse = -1)
  room : used d ≤ 2 * i
  size : d.size = 1000
  fair : d.Fair
theorem deed_fair {d : Dk} (h : d.Fair) (f : Int) (two : ByteArray) (k : Nat) : (deed d f two k).1.Fair := by
  match k with
  | 0 => exact Fair.write h f two
  | 1 => exact Fair.sync h f
  | n + 2 => exact Fair.cut h f 3
/-- What a round makes. -/
theorem St.round {M i : Nat} {keep : Int} {d : Dk} (h : St M i keep d) (hi : i ≤ M ∧ M ≤ 19) {F : Int} (hF : F = 0 ∨ F = 1) (k : Nat) :
    (i < M ∧ (deed d F ⟨#[97, 98]⟩ k).2 = 0 ∧ (deed d F ⟨#[97, 98]⟩ k).1.down = false ∧ St M (i + 1) keep (deed d F ⟨#[97, 98]⟩ k).1) ∨
    (i = M ∧ (deed d F ⟨#[97, 98]⟩ k).2 = 12 ∧ (deed d F ⟨#[97, 98]⟩ k).1.down = true ∧ St M (i + 1) keep (deed d F ⟨#[97, 98]⟩ k).1) := by
  have hw : Well d (M - i) i keep := by
    rcases h.at_ with hw | hw
    · exact hw.2
    · omega
  have hf := deed_fair h.fair F ⟨#[97, 98]⟩ k
  by_cases hlt : i < M
  · have e : M - i = (M - (i + 1)) + 1 := by omega
    rw [e] at hw
    obtain ⟨h1, h2⟩ := well_step hw hF (two := ⟨#[97, 98]⟩) rfl (by omega) k
    exact .inl ⟨hlt, h1, h2.down, ⟨.inl ⟨by omega, h2⟩, h2.room, h2.size, hf⟩⟩
  · have e : M - i = 0 := by omega
    rw [e] at hw
    obtain ⟨h1, h2, h3, h4, h5⟩ := well_out hw hF (two := ⟨#[97, 98]⟩) rfl (by omega) k
    exact .inr ⟨by omega, h1, h2, ⟨.inr ⟨by omega, h2, h3⟩, by omega, h5, hf⟩⟩
theorem st_start (M : Nat) {keep : Int} (hM : M ≤ 19) (h0 : -9223372036854775808 ≤ keep) (h1 : keep ≤ 9223372036854775807) : St M 0 keep (arm (new 1000) M keep) :=
  ⟨.inl ⟨Nat.zero_le _, well_start M keep⟩, Nat.le_refl _, rfl, Fair.arm (fair_new (by decide) (by decide)) (by omega) (by omega) h0 h1⟩
set_option maxRecDepth 100000 in
set_option maxHeartbeats 4000000 in
theorem walk (n : Int) (hn0 : 0 ≤ n) (hn1 : n ≤ 255) (v : Value) (bs : List UInt8) (keep : Int) (hk0 : -9223372036854775808 ≤ keep) (hk1 : keep ≤ 9223372036854775807) (w : World) (hv : Args.Bytes w v bs) :
    Calls Try.prog 6 #[.int .u8 n, v, .int .i64 keep] w fun e w' => e = .returned (.bool true) ∧ Below w.heap.size w w' := by
  obtain ⟨M, hM⟩ : ∃ M : Nat, n % 20 = (M : Int) := ⟨(n % 20).toNat, by omega⟩
  have hM19 : M ≤ 19 := by omega
  have HN := Lib.hid (fun w => new_any 1000 w)
  have HA := Lib.hid (fun w => arm_any (new 1000) M keep w)
  have HS := Lib.hid (st_start M hM19 hk0 hk1)
  obtain ⟨D0, hD0⟩ : ∃ D0, new 1000 = D0 := ⟨_, rfl⟩
  rw [hD0] at HN HA HS
  obtain ⟨D1, hD1⟩ : ∃ D1, arm D0 M keep = D1 := ⟨_, rfl⟩
  rw [hD1] at HA HS
  unfold valD at HN HA
  obtain ⟨o, cap, rfl, hmax, hcells⟩ := hv
  have HV := Lib.hid hcells
  have hlm : bs.length ≤ 9223372036854775807 := by unfold maxLen at hmax; omega
  clear hD0 hD1 hcells hmax
  go_enter Try.func6, Try.ntmps6
  go_wp2_with fail
  refine (examples_any _).mono ?_
  rintro e w1 ⟨rfl, hb1⟩
  go_wp2_with fail
  refine (HN.out _).mono ?_
  rintro e w2 ⟨rfl, hb2⟩
  go_wp2_with fail
  refine (HA.out _).mono ?_
  rintro e w3 ⟨rfl, hb3⟩
  have hb := grows (grows (grows hb1 hb2) hb3) (Boxes.old w3 (box D1))
  have hnB : w.heap.size ≤ w3.heap.size := (grows (grows hb1 hb2) hb3).size
  have hd := Boxes.fresh w3 (box D1)
  clear hb1 hb2 hb3 HN HA
  go_upto_region 6 with (refine store_new w3 rfl rfl _ _ 26 rfl _ (cellsD D1) rfl rfl szD rfl (one_cells D1) ?_)
  obtain ⟨W, hW⟩ : ∃ W, W = w3.alloc (box D1) := ⟨_, rfl⟩
  rw [← hW] at hb hd ⊢
  clear hW
  obtain ⟨nB, hnBe⟩ : ∃ n, w3.heap.size = n := ⟨_, rfl⟩
  rw [hnBe] at hnB hd ⊢
  clear hnBe
  go_wp2
  go_loopw [10] (fun x wr => ∃ i : Nat, ∃ d, i ≤ M + 1 ∧ x = .int .i64 i ∧ Hid (St M i keep d) ∧ wr.heap[nB]? = some (box d) ∧ Below w.heap.size w wr) (fun x _ => M + 1 - (intOf x).toNat)
  case atStart => exact ⟨0, D1, by omega, rfl, HS, hd, hb⟩
  case round =>
    clear HS hb hd
    obtain ⟨i, d, hi1, rfl, HS, hD, hB⟩ := hrel
    by_cases hiM : i ≤ M
    · have hi : i ≤ M ∧ M ≤ 19 := ⟨hiM, hM19⟩
      have hii : (i : Int) ≤ (M : Int) := by omega
      by_cases hlen : i < bs.length
      · have hli : (i : Int) < (bs.length : Int) := by omega
        obtain ⟨bb, off, rfl, hbb, hcell⟩ := HV.out (by intro h; rw [h] at hlen; simp at hlen)
        have m := (hB.cell (p := ⟨bb, off + i, none⟩) hbb).trans (hcell i hlen)
        have hu8 := (bs[i]).toNat_lt
        obtain ⟨K, hK0⟩ : ∃ K : Int, ((bs[i].toNat : Nat) : Int) = K := ⟨_, rfl⟩
        rw [hK0] at m
        have hKa : 0 ≤ K := by omega
        have hKb : K ≤ 255 := by omega
        clear hcell hu8 hK0
        go_upto_region 13 with fail
        have hF01 : K / 3 % 2 = 0 ∨ K / 3 % 2 = 1 := by omega
        obtain ⟨F, hF⟩ : ∃ F, K / 3 % 2 = F := ⟨_, rfl⟩
        rw [hF] at hF01
        rcases (show K % 3 = 0 ∨ K % 3 = 1 ∨ K % 3 = 2 by omega) with hK | hK | hK
        · go_upto_region 15 with fail
          have HW := Lib.hid (fun w' => write_any d HS.out.fair F ⟨#[97, 98]⟩ (by have := HS.out.room; show used d + 2 ≤ _; omega) w')
          have HD := HS.out.round hi hF01 0
          obtain ⟨y, er, hy⟩ : ∃ y er, deed d F ⟨#[97, 98]⟩ 0 = (y, er) := ⟨_, _, rfl⟩
          have hy' : write d F ⟨#[97, 98]⟩ = (y, er) := hy
          rw [hy'] at HW
          rw [hy] at HD
          clear hy hy'
          unfold retD valD at HW
          dsimp only at HW HD
          go_wp2_with (refine Whole.load wr rfl _ 26 rfl _ _ _ rfl hD Try.underlying26 rfl szD ?_)
          refine (HW.out _).mono ?_
          rintro e w7 ⟨rfl, hb7⟩
          have l7 := Boxes.keep hD hb7
          have hb8 := Whole.row_below (grows hB hb7) hnB (cellsD y)
          have l8 := setRow_heap w7 nB _ (cellsD y) _ _ l7
          go_upto_region 20 with (refine Whole.store w7 rfl rfl _ _ 26 rfl nB _ (cellsD y) rfl rfl l7 szD rfl (one_cells y) ?_)
          generalize w7.setRow nB (cellsD y) = W8 at hb8 l8 ⊢
          clear l7 hb7 HW
          have q5 := Quiet.cell (Boxes.lt_of l8) (Boxes.cell_at (i := 5) l8 (v := .bool y.down) rfl)
          rcases HD with ⟨hlt, rfl, hdn, HS'⟩ | ⟨heq, rfl, hdn, HS'⟩
          · rw [hdn] at q5
            have HS1 := Lib.hid HS'
            have g1 : decide ((i : Int) < (M : Int)) = true := decide_eq_true (by omega)
            have g2 : ((i : Int) == (M : Int)) = false := by rw [beq_eq_false_iff_ne]; omega
            have g3 : decide (i < M) = true := decide_eq_true (by omega)
            have g4 : (i == M) = false := by rw [beq_eq_false_iff_ne]; omega
            refine Whole.regionL ?_
            repeat (first | go_big_quiet_skip | (go_big_quiet_want; (go_big_quiet_op; go_big_quiet_on)))
            refine wpQuiet_nil ?_
            rintro _ ⟨pq, rfl⟩
            have l9 := Boxes.keep l8 pq.below
            have hb9 := grows hb8 pq.below
            clear l8 hb8 q5 g1 g2 g3 g4
            go_wp2
            go_roundw
            case rel => exact ⟨i + 1, y, by omega, by go_num, HS1, l9, hb9⟩
            case measure =>
              simp [intOf]
              omega
          · rw [hdn] at q5
            have HS1 := Lib.hid HS'
            have g1 : decide ((i : Int) < (M : Int)) = false := decide_eq_false (by omega)
            have g2 : ((i : Int) == (M : Int)) = true := by rw [beq_iff_eq]; omega
            have g3 : decide (i < M) = false := decide_eq_false (by omega)
            have g4 : (i == M) = true := by rw [beq_iff_eq]; omega
            refine Whole.regionL ?_
            repeat (first | go_big_quiet_skip | (go_big_quiet_want; (go_big_quiet_op; go_big_quiet_on)))
            refine wpQuiet_nil ?_
            rintro _ ⟨pq, rfl⟩
            have l9 := Boxes.keep l8 pq.below
            have hb9 := grows hb8 pq.below
            clear l8 hb8 q5 g1 g2 g3 g4
            go_wp2
            go_roundw
            case rel => exact ⟨i + 1, y, by omega, by go_num, HS1, l9, hb9⟩
            case measure =>
              simp [intOf]
              omega
        · go_upto_region 17 with fail
          have HW := Lib.hid (fun w' => sync_any d HS.out.fair F (by have := HS.out.room; omega) w')
          have HD := HS.out.round hi hF01 1
          obtain ⟨y, er, hy⟩ : ∃ y er, deed d F ⟨#[97, 98]⟩ 1 = (y, er) := ⟨_, _, rfl⟩
          have hy' : sync d F = (y, er) := hy
          rw [hy'] at HW
          rw [hy] at HD
          clear hy hy'
          unfold retD valD at HW
          dsimp only at HW HD
          go_wp2_with (refine Whole.load wr rfl _ 26 rfl _ _ _ rfl hD Try.underlying26 rfl szD ?_)
          refine (HW.out _).mono ?_
          rintro e w7 ⟨rfl, hb7⟩
          have l7 := Boxes.keep hD hb7
          have hb8 := Whole.row_below (grows hB hb7) hnB (cellsD y)
          have l8 := setRow_heap w7 nB _ (cellsD y) _ _ l7
          go_upto_region 20 with (refine Whole.store w7 rfl rfl _ _ 26 rfl nB _ (cellsD y) rfl rfl l7 szD rfl (one_cells y) ?_)
          generalize w7.setRow nB (cellsD y) = W8 at hb8 l8 ⊢
          clear l7 hb7 HW
          have q5 := Quiet.cell (Boxes.lt_of l8) (Boxes.cell_at (i := 5) l8 (v := .bool y.down) rfl)
          rcases HD with ⟨hlt, rfl, hdn, HS'⟩ | ⟨heq, rfl, hdn, HS'⟩
          · rw [hdn] at q5
            have HS1 := Lib.hid HS'
            have g1 : decide ((i : Int) < (M : Int)) = true := decide_eq_true (by omega)
            have g2 : ((i : Int) == (M : Int)) = false := by rw [beq_eq_false_iff_ne]; omega
            have g3 : decide (i < M) = true := decide_eq_true (by omega)
            have g4 : (i == M) = false := by rw [beq_eq_false_iff_ne]; omega
            refine Whole.regionL ?_
            repeat (first | go_big_quiet_skip | (go_big_quiet_want; (go_big_quiet_op; go_big_quiet_on)))
            refine wpQuiet_nil ?_
            rintro _ ⟨pq, rfl⟩
            have l9 := Boxes.keep l8 pq.below
            have hb9 := grows hb8 pq.below
            clear l8 hb8 q5 g1 g2 g3 g4
            go_wp2
            go_roundw
            case rel => exact ⟨i + 1, y, by omega, by go_num, HS1, l9, hb9⟩
            case measure =>
              simp [intOf]
              omega
          · rw [hdn] at q5
            have HS1 := Lib.hid HS'
            have g1 : decide ((i : Int) < (M : Int)) = false := decide_eq_false (by omega)
            have g2 : ((i : Int) == (M : Int)) = true := by rw [beq_iff_eq]; omega
            have g3 : decide (i < M) = false := decide_eq_false (by omega)
            have g4 : (i == M) = true := by rw [beq_iff_eq]; omega
            refine Whole.regionL ?_
            repeat (first | go_big_quiet_skip | (go_big_quiet_want; (go_big_quiet_op; go_big_quiet_on)))
            refine wpQuiet_nil ?_
            rintro _ ⟨pq, rfl⟩
            have l9 := Boxes.keep l8 pq.below
            have hb9 := grows hb8 pq.below
            clear l8 hb8 q5 g1 g2 g3 g4
            go_wp2
            go_roundw
            case rel => exact ⟨i + 1, y, by omega, by go_num, HS1, l9, hb9⟩
            case measure =>
              simp [intOf]
              omega
        · go_upto_region 19 with fail
          have HW := Lib.hid (fun w' => cut_any d HS.out.fair F 3 (by decide) (by have := HS.out.room; omega) w')
          have HD := HS.out.round hi hF01 2
          obtain ⟨y, er, hy⟩ : ∃ y er, deed d F ⟨#[97, 98]⟩ 2 = (y, er) := ⟨_, _, rfl⟩
          have hy' : cut d F 3 = (y, er) := hy
          rw [hy'] at HW
          rw [hy] at HD
          clear hy hy'
          unfold retD valD at HW
          dsimp only at HW HD
          go_wp2_with (refine Whole.load wr rfl _ 26 rfl _ _ _ rfl hD Try.underlying26 rfl szD ?_)
          refine (HW.out _).mono ?_
          rintro e w7 ⟨rfl, hb7⟩
          have l7 := Boxes.keep hD hb7
          have hb8 := Whole.row_below (grows hB hb7) hnB (cellsD y)
          have l8 := setRow_heap w7 nB _ (cellsD y) _ _ l7
          go_upto_region 20 with (refine Whole.store w7 rfl rfl _ _ 26 rfl nB _ (cellsD y) rfl rfl l7 szD rfl (one_cells y) ?_)
          generalize w7.setRow nB (cellsD y) = W8 at hb8 l8 ⊢
          clear l7 hb7 HW
          have q5 := Quiet.cell (Boxes.lt_of l8) (Boxes.cell_at (i := 5) l8 (v := .bool y.down) rfl)
          rcases HD with ⟨hlt, rfl, hdn, HS'⟩ | ⟨heq, rfl, hdn, HS'⟩
          · rw [hdn] at q5
            have HS1 := Lib.hid HS'
            have g1 : decide ((i : Int) < (M : Int)) = true := decide_eq_true (by omega)
            have g2 : ((i : Int) == (M : Int)) = false := by rw [beq_eq_false_iff_ne]; omega
            have g3 : decide (i < M) = true := decide_eq_true (by omega)
            have g4 : (i == M) = false := by rw [beq_eq_false_iff_ne]; omega
            refine Whole.regionL ?_
            repeat (first | go_big_quiet_skip | (go_big_quiet_want; (go_big_quiet_op; go_big_quiet_on)))
            refine wpQuiet_nil ?_
            rintro _ ⟨pq, rfl⟩
            have l9 := Boxes.keep l8 pq.below
            have hb9 := grows hb8 pq.below
            clear l8 hb8 q5 g1 g2 g3 g4
            go_wp2
            go_roundw
            case rel => exact ⟨i + 1, y, by omega, by go_num, HS1, l9, hb9⟩
            case measure =>
              simp [intOf]
              omega
          · rw [hdn] at q5
            have HS1 := Lib.hid HS'
            have g1 : decide ((i : Int) < (M : Int)) = false := decide_eq_false (by omega)
            have g2 : ((i : Int) == (M : Int)) = true := by rw [beq_iff_eq]; omega
            have g3 : decide (i < M) = false := decide_eq_false (by omega)
            have g4 : (i == M) = true := by rw [beq_iff_eq]; omega
            refine Whole.regionL ?_
            repeat (first | go_big_quiet_skip | (go_big_quiet_want; (go_big_quiet_op; go_big_quiet_on)))
            refine wpQuiet_nil ?_
            rintro _ ⟨pq, rfl⟩
            have l9 := Boxes.keep l8 pq.below
            have hb9 := grows hb8 pq.below
            clear l8 hb8 q5 g1 g2 g3 g4
            go_wp2
            go_roundw
            case rel => exact ⟨i + 1, y, by omega, by go_num, HS1, l9, hb9⟩
            case measure =>
              simp [intOf]
              omega
      · have hli : ¬ (i : Int) < (bs.length : Int) := by omega
        have hF01 : (0 : Int) = 0 ∨ (0 : Int) = 1 := .inl rfl
        go_upto_region 13 with fail
        go_upto_region 15 with fail
        have HW := Lib.hid (fun w' => write_any d HS.out.fair 0 ⟨#[97, 98]⟩ (by have := HS.out.room; show used d + 2 ≤ _; omega) w')
        have HD := HS.out.round hi (F := 0) hF01 0
        obtain ⟨y, er, hy⟩ : ∃ y er, deed d 0 ⟨#[97, 98]⟩ 0 = (y, er) := ⟨_, _, rfl⟩
        have hy' : write d 0 ⟨#[97, 98]⟩ = (y, er) := hy
        rw [hy'] at HW
        rw [hy] at HD
        clear hy hy'
        unfold retD valD at HW
        dsimp only at HW HD
        go_wp2_with (refine Whole.load wr rfl _ 26 rfl _ _ _ rfl hD Try.underlying26 rfl szD ?_)
        refine (HW.out _).mono ?_
        rintro e w7 ⟨rfl, hb7⟩
        have l7 := Boxes.keep hD hb7
        have hb8 := Whole.row_below (grows hB hb7) hnB (cellsD y)
        have l8 := setRow_heap w7 nB _ (cellsD y) _ _ l7
        go_upto_region 20 with (refine Whole.store w7 rfl rfl _ _ 26 rfl nB _ (cellsD y) rfl rfl l7 szD rfl (one_cells y) ?_)
        generalize w7.setRow nB (cellsD y) = W8 at hb8 l8 ⊢
        clear l7 hb7 HW
        have q5 := Quiet.cell (Boxes.lt_of l8) (Boxes.cell_at (i := 5) l8 (v := .bool y.down) rfl)
        rcases HD with ⟨hlt, rfl, hdn, HS'⟩ | ⟨heq, rfl, hdn, HS'⟩
        · rw [hdn] at q5
          have HS1 := Lib.hid HS'
          have g1 : decide ((i : Int) < (M : Int)) = true := decide_eq_true (by omega)
          have g2 : ((i : Int) == (M : Int)) = false := by rw [beq_eq_false_iff_ne]; omega
          have g3 : decide (i < M) = true := decide_eq_true (by omega)
          have g4 : (i == M) = false := by rw [beq_eq_false_iff_ne]; omega
          refine Whole.regionL ?_
          repeat (first | go_big_quiet_skip | (go_big_quiet_want; (go_big_quiet_op; go_big_quiet_on)))
          refine wpQuiet_nil ?_
          rintro _ ⟨pq, rfl⟩
          have l9 := Boxes.keep l8 pq.below
          have hb9 := grows hb8 pq.below
          clear l8 hb8 q5 g1 g2 g3 g4
          go_wp2
          go_roundw
          case rel => exact ⟨i + 1, y, by omega, by go_num, HS1, l9, hb9⟩
          case measure =>
            simp [intOf]
            omega
        · rw [hdn] at q5
          have HS1 := Lib.hid HS'
          have g1 : decide ((i : Int) < (M : Int)) = false := decide_eq_false (by omega)
          have g2 : ((i : Int) == (M : Int)) = true := by rw [beq_iff_eq]; omega
          have g3 : decide (i < M) = false := decide_eq_false (by omega)
          have g4 : (i == M) = true := by rw [beq_iff_eq]; omega
          refine Whole.regionL ?_
          repeat (first | go_big_quiet_skip | (go_big_quiet_want; (go_big_quiet_op; go_big_quiet_on)))
          refine wpQuiet_nil ?_
          rintro _ ⟨pq, rfl⟩
          have l9 := Boxes.keep l8 pq.below
          have hb9 := grows hb8 pq.below
          clear l8 hb8 q5 g1 g2 g3 g4
          go_wp2
          go_roundw
          case rel => exact ⟨i + 1, y, by omega, by go_num, HS1, l9, hb9⟩
          case measure =>
            simp [intOf]
            omega
    · have hii : ¬ (i : Int) ≤ (M : Int) := by omega
      obtain rfl : i = M + 1 := by omega
      have hend : d.down = true ∧ d.fuse = -1 := by
        rcases HS.out.at_ with h | h
        · omega
        · exact h.2
      obtain ⟨hdn, hfu⟩ := hend
      have hr := HS.out.room
      have hsz := HS.out.size
      have hfd := HS.out.fair
      have E1 := Lib.hid (fun w' => write_any d hfd 0 ⟨#[99]⟩ (by show used d + 1 ≤ _; omega) w')
      have E2 := Lib.hid (fun w' => sync_any d hfd 1 (by omega) w')
      have E3 := Lib.hid (fun w' => cut_any d hfd 0 0 (by decide) (by omega) w')
      have E4 := Lib.hid (fun w' => start_any d w')
      have E5 := Lib.hid (fun w' => write_any (Disk.start d) ⟨hfd.s0, hfd.s1, hfd.f0, hfd.f1, hfd.k0, hfd.k1⟩ 0 ⟨#[99]⟩ (by show used d + 1 ≤ _; omega) w')
      rw [down_write _ hdn (.inl rfl)] at E1
      rw [down_sync hdn (.inr rfl)] at E2
      rw [down_cut _ hdn (.inl rfl)] at E3
      have hsw := started_write (d := d) (f := 0) (.inl rfl) ⟨#[99]⟩ hfu (by rw [hsz]; show ¬ (1000 : Int) < ((used d + 1 : Nat) : Int); omega)
      have hfz : (put (Disk.start d) 0 ((get (Disk.start d) 0).more ⟨#[99]⟩)).fuse = -1 := hfu
      obtain ⟨z, ez, hz⟩ : ∃ z ez, write (Disk.start d) 0 ⟨#[99]⟩ = (z, ez) := ⟨_, _, rfl⟩
      rw [hz] at E5 hsw
      dsimp only at hsw
      obtain ⟨rfl, hzz⟩ := hsw
      rw [← hzz] at hfz
      obtain ⟨s1, hs1⟩ : ∃ s1, Disk.start d = s1 := ⟨_, rfl⟩
      rw [hs1] at E4 E5
      clear hs1 hz hzz hr hsz hfd hfu hdn HS
      unfold retD valD at E1 E2 E3 E5
      unfold valD at E4
      dsimp only at E1 E2 E3 E5
      have hEq := eql_disk_p d
      unfold valD at hEq
      have hA : All [(nB, box d)] wr := (All.nil wr).cons hD
      clear hD
      go_wp2_with (refine Whole.load wr rfl _ 26 rfl _ _ _ rfl (hA.get 0 rfl) Try.underlying26 rfl szD ?_)
      refine (E1.out _).mono ?_
      rintro e v1 ⟨rfl, c1⟩
      have hA1 := (hA.more c1).new (box d)
      have hB1 := grows hB c1
      clear hA hB c1
      go_wp2_with (first | (refine store_new v1 rfl rfl _ _ 26 rfl _ (cellsD d) rfl rfl szD rfl (one_cells d) ?_) | (refine Whole.load _ rfl _ 26 rfl _ _ _ rfl (hA1.get 1 rfl) Try.underlying26 rfl szD ?_))
      refine (E2.out _).mono ?_
      rintro e v2 ⟨rfl, c2⟩
      have hA2 := (hA1.more c2).new (box d)
      have hB2 := grows1 hB1 c2
      clear hA1 hB1 c2
      go_wp2_with (first | (refine store_new v2 rfl rfl _ _ 26 rfl _ (cellsD d) rfl rfl szD rfl (one_cells d) ?_) | (refine Whole.load _ rfl _ 26 rfl _ _ _ rfl (hA2.get 2 rfl) Try.underlying26 rfl szD ?_))
      refine (E3.out _).mono ?_
      rintro e v3 ⟨rfl, c3⟩
      have hA3 := (hA2.more c3).new (box d)
      have hB3 := grows1 hB2 c3
      clear hA2 hB2 c3
      go_wp2_with (first | (refine store_new v3 rfl rfl _ _ 26 rfl _ (cellsD d) rfl rfl szD rfl (one_cells d) ?_) | (refine Whole.load _ rfl _ 26 rfl _ _ _ rfl (hA3.get 3 rfl) Try.underlying26 rfl szD ?_))
      refine (E4.out _).mono ?_
      rintro e v4 ⟨rfl, c4⟩
      have hA4 := hA3.more c4
      have hB4 := grows1 hB3 c4
      clear hA3 hB3 c4
      go_wp2_with fail
      refine (E5.out _).mono ?_
      rintro e v5 ⟨rfl, c5⟩
      have hA5 := (hA4.more c5).new (box z)
      have hB5 := grows (grows hB4 c5) (Boxes.old v5 (box z))
      clear hA4 hB4 c5
      go_upto_region 26 with (refine store_new v5 rfl rfl _ _ 26 rfl _ (cellsD z) rfl rfl szD rfl (one_cells z) ?_)
      obtain ⟨V, hV⟩ : ∃ V, V = v5.alloc (box z) := ⟨_, rfl⟩
      rw [← hV] at hA5 hB5 ⊢
      clear hV
      have q6 := Quiet.cell (Boxes.lt_of (hA5.get 0 rfl)) ((hA5.cell 0 6 rfl (v := .int .i64 z.fuse) rfl).trans (by rw [hfz]))
      refine Whole.regionL ?_
      repeat (first | go_big_quiet_skip | (go_big_quiet_want; first | (refine Whole.quiet_load _ 26 rfl _ _ _ rfl (hA5.get 3 rfl) Try.underlying26 rfl szD ?_; simp only [Act.put, List.setIfInBounds_toArray, List.set_cons_succ, List.set_cons_zero]; go_big_quiet_on) | (refine Whole.quiet_load _ 26 rfl _ _ _ rfl (hA5.get 4 rfl) Try.underlying26 rfl szD ?_; simp only [Act.put, List.setIfInBounds_toArray, List.set_cons_succ, List.set_cons_zero]; go_big_quiet_on) | (refine Whole.quiet_load _ 26 rfl _ _ _ rfl (hA5.get 2 rfl) Try.underlying26 rfl szD ?_; simp only [Act.put, List.setIfInBounds_toArray, List.set_cons_succ, List.set_cons_zero]; go_big_quiet_on) | (refine Whole.quiet_load _ 26 rfl _ _ _ rfl (hA5.get 1 rfl) Try.underlying26 rfl szD ?_; simp only [Act.put, List.setIfInBounds_toArray, List.set_cons_succ, List.set_cons_zero]; go_big_quiet_on) | (refine Whole.quiet_bin .eql _ _ 26 26 rfl (.bool true) _ _ rfl rfl (by kernel_rfl) hEq ?_; simp only [Act.put, List.setIfInBounds_toArray, List.set_cons_succ, List.set_cons_zero]; go_big_quiet_on) | (go_big_quiet_op; go_big_quiet_on)))
      refine wpQuiet_nil ?_
      rintro _ ⟨pq, rfl⟩
      have hbb := grows hB5 pq.below
      clear hA5 hB5 q6 hEq E1 E2 E3 E4 E5
      go_wp2
      go_ret
      exact ⟨rfl, hbb⟩

set_option maxRecDepth 100000 in
theorem lifted (os : Os) (started : os.Started) (H : Type) (enc : TypeId × Value → H) :
    ReturnsInHanded {} Try.checked os 6 .any (Rows.diskFuseSpec.pre6 enc Try.prog Try.f6 Rows.diskFuseRow.domain false) (Rows.diskFuseSpec.post enc Try.prog Try.f6 false true false false) := by
  refine returnsInHanded_of_change_sized (C := Try.checked) Ends.own started (by kernel_rfl) Try.func6
    (ChangeSpec.witness6 (enc := enc) (C := Try.checked) false ⟨#[], #[.int .u8 0, .slice none 0 0, .int .i64 0], []⟩ 8 (by kernel_rfl) (by kernel_rfl) (by kernel_rfl) (by kernel_rfl)) ?_
  intro W base args ds gs before hval0 hW _ _ _
  have hval : ∀ (j : Nat) t v, Try.f6.params[j]? = some t → args[j]? = some v → Value.okWide Try.prog W .any base t v := hval0
  have hW' := hW
  obtain ⟨p, q, hA0, hV, rfl, hfz, hnd⟩ := hW
  have hA : DataW.TrodAll enc Try.prog W 0 (fun _ => true) true Try.f6.params.toList args.toList ds p := hA0
  rw [Try.params6] at hA hval
  obtain ⟨v0, vs0, d0, ds0, p0, q0, hargs, rfl, rfl, h0, r0⟩ := trodAll_cons hA
  obtain ⟨v1, vs1, d1, ds1, p1, q1, rfl, rfl, rfl, h1, r1⟩ := trodAll_cons r0
  obtain ⟨v2, vs2, d2, ds2, p2, q2, rfl, rfl, rfl, h2, r2⟩ := trodAll_cons r1
  obtain ⟨rfl, rfl, rfl⟩ := trodAll_nil r2
  obtain rfl : args = #[v0, v1, v2] := by cases args; simp_all
  obtain ⟨rfl, rfl⟩ := trodVars_none hV
  obtain ⟨a0, rfl, rfl, rfl, w0⟩ := open_int Try.underlying5 (hval 0 5 v0 rfl rfl) h0
  obtain ⟨a1, w1⟩ := Args.open_bytes Try.underlying61 Try.underlying5 (by kernel_rfl) (hval 1 61 v1 rfl rfl) h1
  obtain ⟨a2, rfl, rfl, rfl, w2⟩ := open_int Try.underlying3 (hval 2 3 v2 rfl rfl) h2
  have b0 := bounds_u8 w0
  have b2 := bounds_i64 w2
  refine (walk a0 b0.1 b0.2 v1 a1 a2 b2.1 b2.2 W w1).mono fun e W' ⟨he, hb⟩ => ?_
  subst he
  exact ⟨_, rfl, Ends.law_end Ends.laidOut (by rw [Try.params6]; decide +kernel) rfl (by kernel_rfl) Try.underlying4 hW' rfl hb⟩

/-- The statement. -/
theorem proved : Rows.DiskFuseSaid :=
  OpenClaim.holds_of_wide 6 Try.f6 rfl rfl rfl rfl rfl rfl rfl ⟨rfl, rfl, rfl, rfl, rfl⟩ rfl rfl rfl rfl rfl (by kernel_rfl) Try.func6 (by kernel_rfl)
    (of_decide_eq_true (by kernel_rfl)) (by unfold Func.isWrapper; first | (rw [if_pos (by decide +kernel)]; kernel_rfl) | (rw [if_neg (by decide +kernel)]; exact ⟨rfl, rfl⟩))
    (fun os started H enc _ => lifted os started H enc)
end Go.Proofs.Ytoomanlonhnleaa.diskFuse
