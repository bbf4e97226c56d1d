/- What sel.Parse answers of every text, in one form: what the document's Parse tells. -/
import Derived.Test.YtcgknkbigbbfdaaDoorSLoop
namespace Go.Proofs.YtcgknkbigbbfdaaDoor.Sel
open Go.RowKit Go.Proofs.YtcgknkbigbbfdaaDoor.Texts Go.Proofs.YtcgknkbigbbfdaaDoor.Word Go.Proofs.YtcgknkbigbbfdaaDoor.Forms Go.Proofs.YtcgknkbigbbfdaaDoor.Split Go.Proofs.YtcgknkbigbbfdaaDoor.Boxes

theorem parse_any (s : ByteArray) (hs : s.size ≤ 4611686018427387904) (w : World) (hE : Err w) : Calls Tryd.prog 13 #[.string s] w (TellsS (parseS s) w) := by
  rw [← parseP_eq]
  unfold parseP
  by_cases h : s = ⟨#[45]⟩
  · rw [if_pos h]
    subst h
    exact parse_dash w
  · rw [if_neg h]
    have hd : (s.toList == [45]) = false := by
      have := beq_str s ⟨#[45]⟩
      rw [decide_eq_false h, Lib.toList_data ⟨#[45]⟩] at this
      exact this
    by_cases h4 : (cuts 44 s.data.toList).length ≤ 4
    · have := parse_few s hs hd _ rfl h4 w hE
      unfold told at this
      by_cases ha : (cuts 44 s.data.toList).all (fun q => rightT (readP q)) = true
      · rw [if_pos ha] at this
        rw [if_pos ⟨h4, ha⟩]
        exact this
      · rw [if_neg ha] at this
        rw [if_neg (fun hc => ha hc.2)]
        exact this
    · rw [if_neg (fun hc => h4 hc.1)]
      exact parse_many s hs hd (by omega) w hE
end Go.Proofs.YtcgknkbigbbfdaaDoor.Sel
