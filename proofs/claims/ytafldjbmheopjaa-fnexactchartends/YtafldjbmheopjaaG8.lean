/- Whether a chart ends a sentence: impl.ChartEnds. -/
import Derived.Test.YtafldjbmheopjaaG6
import Derived.Test.YtafldjbmheopjaaG7
namespace Go.Proofs.Ytafldjbmheopjaa
open Go.RowKit
set_option linter.unusedVariables false

set_option maxRecDepth 100000 in
set_option maxHeartbeats 1000000 in
theorem implEnds_any (hd : Int) (ps : List Pd) (a : Option Addr) (c : Nat) (ts : List (List Sy)) (A0 : Option Addr) (C0 : Nat) (w : World) (hr : Pds w a ps) (hm : ps.length ≤ 1048576) (hs : Small ps) (ht : Sts w A0 ts) (htm : ts.length ≤ 1048576) (hts : SmallT ts) :
    Calls Try.prog 10 #[.agg #[.int .i64 hd, .slice a ps.length c], .agg #[.slice A0 ts.length C0]] w (EndsPost hd ps ts w) := by
  have hb0 : Below w.heap.size w ((w.alloc (.cells #[.int .i64 hd, .slice a ps.length c] 33)).alloc (.cells #[.slice A0 ts.length C0] 37)) := (below_box _).alloc (by simp) _
  have HB := Lib.hid (bof_any hd ps a c ts A0 C0 _ (hr.keep hb0) hm hs (ht.keep hb0) htm hts)
  have HB0 := Lib.hid hb0
  have HS := Lib.hid hs
  have HTS := Lib.hid hts
  clear hr hs ht hts hb0
  go_enter Try.func10, Try.ntmps10
  go_wp2_with fail
  refine HB.out.mono ?_
  clear HB
  rintro e w1 ⟨hd', qs, hIT, hb1, ⟨hf, rfl⟩ | ⟨hf, bb, A, cap, S, sc, rfl, hall⟩⟩
  · have FIN : Hid (EndsPost hd ps ts w (.returned (.bool false)) w1) := ⟨hd', qs, hIT, by unfold endsAns; rw [← Bool.and_assoc, hf]; rfl, HB0.out.trans (hb1.mono HB0.out.size)⟩
    clear hf hIT hb1
    go_wp2
    go_ret
    exact FIN.out
  · obtain ⟨hq, hc, hst⟩ := hall w1 (fun _ _ _ => rfl)
    have hch : chartOkB qs ts = true := by simp only [Bool.and_eq_true] at hf; exact hf.2
    have EN := Lib.hid (ends_any bb A cap qs ts S sc w1 hq hc hst hch (by have := hIT.len; omega) (hIT.small HS.out) htm HTS.out)
    have FIN : Hid (∀ w2, Below w1.heap.size w1 w2 → EndsPost hd ps ts w (.returned (.bool ((lastT ts).any (endItemB qs)))) w2) := fun w2 hb => ⟨hd', qs, hIT, by unfold endsAns; rw [← Bool.and_assoc, hf]; rfl, (HB0.out.trans (hb1.mono HB0.out.size)).trans (hb.mono (Nat.le_trans HB0.out.size hb1.size))⟩
    clear hf hIT hb1 hq hc hst hch hall
    go_wp2_with fail
    refine EN.out.mono ?_
    rintro e w2 ⟨rfl, hb2⟩
    have F2 := Lib.hid (FIN.out w2 hb2)
    clear hb2 FIN
    go_wp2
    go_ret
    exact F2.out

end Go.Proofs.Ytafldjbmheopjaa
