/- What impl.VocLong does. -/
import Derived.Test.YtcanhkngikeeiaaL2
namespace Go.Proofs.Ytcanhkngikeeiaa
open Go.RowKit
set_option linter.unusedVariables false

/-- The tokens of a text, round by round. -/
def longGo (ss : List ByteArray) (en : Int) : Nat → List Int → ByteArray → Option (List Int)
  | 0, _, _ => none
  | n + 1, out, text =>
    if text.size = 0 then some out
    else if bestTo ss en text ss.length < 0 ∨ 60 ≤ out.length then none
    else longGo ss en n (out ++ [bestTo ss en text ss.length]) (text.extract (pieceAt ss (bestTo ss en text ss.length).toNat).size text.size)

/-- What VocLong answers. -/
def vocLongR (ss : List ByteArray) (en : Int) (text : ByteArray) : Option (List Int) := if vocOkB ss en then longGo ss en 61 [] text else none

theorem own_form {w : World} {base : Nat} {e : TypeId} {size : Nat} {v : Value} {n : Nat} {xs : List Value} (h : w.ownsRow base e size v n xs) : ∃ A cap, v = .slice A n cap := by
  rcases h.2 with ⟨rfl, rfl⟩ | ⟨g, cap, cur, rfl, _⟩
  · exact ⟨_, _, rfl⟩
  · exact ⟨_, _, rfl⟩

/-- A slice that a call has made reads as the list that it holds. -/
theorem own_row {w : World} {base : Nat} {e : TypeId} {A : Option Addr} {c n : Nat} {xs : List Value} (h : w.ownsRow base e 1 (.slice A n c) n xs) : Row w A xs := by
  rcases h.2 with ⟨hv, rfl⟩ | ⟨g, cap, cur, hv, _⟩
  · have := h.1; simp at this; exact .inl this
  · have hA : A = some ⟨g, 0, none⟩ := by injection hv
    subst hA
    refine .inr ⟨g, 0, rfl, fun i hi => ?_⟩
    have hc := h.cells (g := g) rfl i xs[i] (List.getElem?_eq_getElem hi)
    have e1 : (Addr.add ⟨g, 0, none⟩ i) = ⟨g, 0 + i, none⟩ := by unfold Addr.add; split <;> simp_all
    rw [e1] at hc; exact hc

theorem own_keep {w w' : World} {base : Nat} {e : TypeId} {size : Nat} {v : Value} {n : Nat} {xs : List Value} (h : w.ownsRow base e size v n xs) (hb : Below w.heap.size w w') : w'.ownsRow base e size v n xs := by
  rcases h with ⟨hl, ⟨rfl, rfl⟩ | ⟨g, cap, cur, rfl, h1, h2, h3⟩⟩
  · exact ⟨hl, .inl ⟨rfl, rfl⟩⟩
  · exact ⟨hl, .inr ⟨g, cap, cur, rfl, h1, (hb.block g (Array.getElem?_eq_some_iff.1 h2).1).trans h2, h3⟩⟩
theorem own_base {w : World} {base base' : Nat} {e : TypeId} {size : Nat} {v : Value} {n : Nat} {xs : List Value} (h : w.ownsRow base e size v n xs) (hb : base' ≤ base) : w.ownsRow base' e size v n xs := by
  rcases h with ⟨hl, ⟨rfl, rfl⟩ | ⟨g, cap, cur, rfl, h1, h2, h3⟩⟩
  · exact ⟨hl, .inl ⟨rfl, rfl⟩⟩
  · exact ⟨hl, .inr ⟨g, cap, cur, rfl, by omega, h2, h3⟩⟩

/-- VocLong's answer in memory: a new slice, and whether it was cut. -/
def LongPost (ss : List ByteArray) (en : Int) (text : ByteArray) (w : World) (e : Ending) (w' : World) : Prop :=
  ∃ A cap, e = .returned (.tuple #[.slice A ((vocLongR ss en text).getD []).length cap, .bool (vocLongR ss en text).isSome]) ∧
    w'.ownsRow w.heap.size 3 1 (.slice A ((vocLongR ss en text).getD []).length cap) ((vocLongR ss en text).getD []).length (ints ((vocLongR ss en text).getD [])) ∧ Below w.heap.size w w'

theorem LongPost.no {ss : List ByteArray} {en : Int} {text : ByteArray} {w w' : World} {e : Ending} (h : vocLongR ss en text = none) (he : e = .returned (.tuple #[.slice none 0 0, .bool false])) (hb : Below w.heap.size w w') : LongPost ss en text w e w' := by
  unfold LongPost
  rw [h]
  exact ⟨none, 0, by simpa using he, by simpa [ints] using World.ownsRow_nil w' w.heap.size 3 1, hb⟩
theorem LongPost.yes {ss : List ByteArray} {en : Int} {text : ByteArray} {w w' : World} {e : Ending} {A : Option Addr} {cap : Nat} {out : List Int} (h : vocLongR ss en text = some out) (he : e = .returned (.tuple #[.slice A out.length cap, .bool true]))
    (ho : w'.ownsRow w.heap.size 3 1 (.slice A out.length cap) out.length (ints out)) (hb : Below w.heap.size w w') : LongPost ss en text w e w' := by
  unfold LongPost
  rw [h]
  exact ⟨A, cap, by simpa using he, by simpa using ho, hb⟩

def strLen : Value → Nat | .string s => s.size | _ => 0
theorem size_extract (t : ByteArray) (n : Nat) : (t.extract n t.size).size = t.size - n := by simp [ByteArray.size_extract]

theorem ints_one (out : List Int) (x : Int) : ints out ++ [.int .i64 x] = ints (out ++ [x]) := by simp [ints]

set_option maxHeartbeats 1000000 in
theorem implLong_any (a : Option Addr) (c : Nat) (ss : List ByteArray) (en : Int) (text : ByteArray) (w : World) (hr : Row w a (strs ss)) (hm : ss.length ≤ 1048576) (hs : ∀ s ∈ ss, s.size ≤ 1048576) (ht : text.size ≤ 1048576) :
    Calls Try.prog 26 #[.agg #[.slice a ss.length c, .int .i64 en], .string text] w (LongPost ss en text w) := by
  have HR := Lib.hid hr
  have HS := Lib.hid hs
  clear hr hs
  obtain ⟨i0, hi0, hz0, hz1, hz2⟩ := info_parts info3
  have HI := Lib.hid (And.intro hi0 (And.intro hz0 (And.intro hz1 hz2)))
  clear hi0 hz0 hz1 hz2
  cases hok : vocOkB ss en
  · have HN := Lib.hid (show vocLongR ss en text = none by simp [vocLongR, hok])
    go_enter Try.func26, Try.ntmps26
    go_wp2_with (go_at_call 22; refine (implOk_any _ _ ss en _ (HR.out.keep (below_box _)) hm).mono ?_; rintro e w1 ⟨rfl, hb1⟩)
    go_ret2
    exact LongPost.no HN.out rfl ((below_box _).trans (hb1.mono (by simp)))
  · have HN := Lib.hid (show vocLongR ss en text = longGo ss en 61 [] text by simp [vocLongR, hok])
    go_enter Try.func26, Try.ntmps26
    go_wp2_with (go_at_call 22; refine (implOk_any _ _ ss en _ (HR.out.keep (below_box _)) hm).mono ?_; rintro e w1 ⟨rfl, hb1⟩)
    have hB := Lib.hid hb1
    clear hb1
    go_loopw [1, 6] (fun tx v wr => ∃ (t : ByteArray) (out : List Int) (A : Option Addr) (cap : Nat), tx = .string t ∧ t.size ≤ 1048576 ∧ v = .slice A out.length cap ∧ out.length ≤ 60 ∧
        wr.ownsRow (w.heap.size + 1) 3 1 (.slice A out.length cap) out.length (ints out) ∧ Below (w.heap.size + 1) (w.alloc (.cells #[.slice a ss.length c, .int .i64 en] 25)) wr ∧
        Hid (longGo ss en (61 - out.length) out t = longGo ss en 61 [] text)) (fun tx _ _ => strLen tx)
    case atStart => exact ⟨text, [], none, 0, rfl, ht, rfl, by simp, by simpa [ints] using World.ownsRow_nil _ _ _ _, by simpa using hB.out, rfl⟩
    case round =>
      obtain ⟨t, out, A, cap, rfl, htl, rfl, hol, hown, hb, hgo⟩ := hrel
      have hb0 : Below w.heap.size w wr := (below_box _).trans (hb.mono (by omega))
      have h0 : wr.cell? ⟨w.heap.size, 0, none⟩ = some (.slice a ss.length c) := (hb.cell (by simp)).trans (by simp)
      have h1 : wr.cell? ⟨w.heap.size, 1, none⟩ = some (.int .i64 en) := (hb.cell (by simp)).trans (by simp)
      by_cases hz : t.size = 0
      · have hz' : ¬ (0 : Int) < (t.size : Int) := by omega
        have HZ := Lib.hid hz
        clear hz
        go_wp2
        go_ret2
        refine LongPost.yes (HN.out.trans ?_) rfl (own_base hown (by omega)) hb0
        have h := hgo.out
        rw [← h, show 61 - out.length = (60 - out.length) + 1 by omega]
        simp [longGo, HZ.out]
      · have hz' : (0 : Int) < (t.size : Int) := by omega
        have hrg := bestTo_range ss en t ss.length
        by_cases hneg : bestTo ss en t ss.length < 0
        · have HF : Hid (longGo ss en 61 [] text = none) := by
            unfold Hid; rw [← hgo.out, show 61 - out.length = (60 - out.length) + 1 by omega]
            simp [longGo, hz, hneg]
          go_wp2_with (go_at_call 61; refine (longest_any _ _ ss en t _ (HR.out.keep hb0) hm HS.out htl).mono ?_; rintro e w2 ⟨rfl, hb2⟩)
          go_ret2
          exact LongPost.no (HN.out.trans HF.out) rfl (hb0.trans (hb2.mono hb0.size))
        · by_cases h60 : out.length = 60
          · have HF : Hid (longGo ss en 61 [] text = none) := by
              unfold Hid; rw [← hgo.out, show 61 - out.length = (60 - out.length) + 1 by omega]
              simp [longGo, hz, h60]
            have h60' : ((out.length : Int) == 60) = true := by simp [h60]
            clear h60
            go_wp2_with (go_at_call 61; refine (longest_any _ _ ss en t _ (HR.out.keep hb0) hm HS.out htl).mono ?_; rintro e w2 ⟨rfl, hb2⟩)
            go_ret2
            exact LongPost.no (HN.out.trans HF.out) rfl (hb0.trans (hb2.mono hb0.size))
          · have h60' : ((out.length : Int) == 60) = false := by rw [beq_eq_false_iff_ne]; omega
            have hgood := bestTo_good ss en t ss.length (by omega)
            obtain ⟨bst, hbst⟩ : ∃ bst : Nat, bestTo ss en t ss.length = bst := ⟨(bestTo ss en t ss.length).toNat, by omega⟩
            rw [hbst] at hgood hrg hneg
            simp only [Int.toNat_natCast] at hgood
            have hlt : bst < ss.length := by omega
            have hpl := pieceAt_le (ss := ss) bst HS.out
            have hps : 0 < (pieceAt ss bst).size := by have := hgood.1; unfold plainB at this; simp at this; omega
            have hpt : (pieceAt ss bst).size ≤ t.size := by have := hgood.2; unfold fitsB at this; simp at this; exact this.1
            have HF : Hid (longGo ss en (61 - (out ++ [(bst : Int)]).length) (out ++ [(bst : Int)]) (t.extract (pieceAt ss bst).size t.size) = longGo ss en 61 [] text) := by
              unfold Hid; rw [← hgo.out, show 61 - out.length = (61 - (out ++ [(bst : Int)]).length) + 1 by simp; omega]
              rw [longGo]
              simp only [hbst, hz, if_false]
              rw [if_neg (by omega)]
              simp
            have HBS := Lib.hid hbst
            clear hbst hgood hgo
            go_wp2_with fail
            refine (longest_any _ _ ss en t _ (HR.out.keep hb0) hm HS.out htl).mono ?_
            rintro e w2 ⟨rfl, hb2⟩
            rw [HBS.out]
            obtain ⟨b, off, rfl, hc⟩ := (HR.out.keep (hb0.trans (hb2.mono hb0.size))).piece hlt
            replace h0 := cell_keep hb2 h0
            replace h1 := cell_keep hb2 h1
            replace hown := own_keep hown hb2
            have hbB : Below (w.heap.size + 1) (w.alloc (.cells #[.slice (some ⟨b, off, none⟩) ss.length c, .int .i64 en] 25)) w2 := hb.trans (hb2.mono (by have := hb.size; simp at this; omega))
            clear hb2 hb hb0
            have hs0 : w.heap.size + 1 ≤ w2.heap.size := by have := hbB.size; simpa using this
            go_wp2_with (at_builtin; refine wpList_append_own _ rfl _ _ 26 rfl (w.heap.size + 1) 3 i0 (.int .i64 0) 1 8 Try.underlying26 HI.out.1 HI.out.2.1 HI.out.2.2.1 HI.out.2.2.2 rfl (by decide) _ _ _ rfl (hown.alloc _) ⟨w2.heap.size, 0, none⟩ 1 1 [.int .i64 bst] rfl rfl (cell_one_new _ _ _) ?c2 ?c3 ?c4 ?c5 ?_)
            case c2 => intro u hu; simp at hu; subst hu; rfl
            case c3 => unfold maxLen; omega
            case c4 => omega
            case c5 => simp; omega
            · intro v' w3 hown' hgrow _
              have hbB' := (hbB.alloc hs0 _).grown hgrow (by simp; omega) (fun k hk => (hown.lt k hk).1)
              rw [ints_one] at hown'
              obtain ⟨A', cap', hv⟩ := own_form hown'
              subst hv
              have h0' : w3.cell? ⟨w.heap.size, 0, none⟩ = some (.slice (some ⟨b, off, none⟩) ss.length c) := (hbB'.cell (by simp)).trans (by simp)
              have h1' : w3.cell? ⟨w.heap.size, 1, none⟩ = some (.int .i64 en) := (hbB'.cell (by simp)).trans (by simp)
              obtain ⟨b2, off2, e2, hc2⟩ := (HR.out.keep ((below_box _).trans (hbB'.mono (by omega)))).piece hlt
              simp only [Option.some.injEq, Addr.mk.injEq] at e2
              obtain ⟨rfl, rfl, -⟩ := e2
              clear hown hgrow hbB h0 h1 hc
              go_wp2
              go_roundw
              case rel => exact ⟨_, out ++ [(bst : Int)], A', cap', rfl, by rw [size_extract]; omega, by simp, by simp; omega, by simpa using hown', hbB', HF⟩
              case measure => simp [strLen]; omega

end Go.Proofs.Ytcanhkngikeeiaa
