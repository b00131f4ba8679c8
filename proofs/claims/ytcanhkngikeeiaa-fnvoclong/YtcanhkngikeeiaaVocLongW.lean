/- The walk of the law FnVocLong: it returns true for every code, and writes nothing that was there. -/
import Derived.Test.YtcanhkngikeeiaaVocFirstW
import Derived.Test.YtcanhkngikeeiaaT4
namespace Go.Proofs.Ytcanhkngikeeiaa
open Go.RowKit
set_option linter.unusedVariables false

set_option maxHeartbeats 400000 in
theorem lfBegins_is (text p : ByteArray) (b : Bool) (w : World) (ht : text.size ≤ maxLen) (hp : p.size ≤ maxLen) (hb : fitsB text p = b) :
    Calls Try.prog 28 #[.string text, .string p] w fun e w' => e = .returned (.bool b) ∧ w = w' := by
  subst hb
  unfold maxLen at ht hp
  by_cases h : p.size ≤ text.size
  · go_enter Try.func28, Try.ntmps28
    go_wp2
    go_ret
    exact ⟨ret_bool (by simp [fitsB, h]), rfl⟩
  · go_enter Try.func28, Try.ntmps28
    go_wp2
    go_ret
    exact ⟨ret_bool (by simp [fitsB, h]), rfl⟩

theorem fitsB_split {text p : ByteArray} (h : fitsB text p = true) : p.size ≤ text.size ∧ p ++ text.extract p.size text.size = text := by
  simp only [fitsB, Bool.and_eq_true, decide_eq_true_eq, beq_iff_eq] at h
  refine ⟨h.1, ?_⟩
  have h2 : text.extract 0 p.size = p := bytes_eq h.2
  have h3 : text.extract 0 p.size ++ text.extract p.size text.size = text := by simp [h.1]
  rw [h2] at h3
  exact h3

/-- The text of the tokens that are taken is the text. -/
theorem CutR.text {ss : List ByteArray} {en : Int} : ∀ {r : List Int} {t : ByteArray}, CutR ss en r t → ∀ o, textGo ss en r o = some (o ++ t)
  | [], t, h, o => by
    have h0 : t = ByteArray.empty := ByteArray.size_eq_zero_iff.1 h
    subst h0
    simp [textGo]
  | x :: xs, t, h, o => by
    have hr := bestTo_range ss en t ss.length
    have hg := bestTo_good ss en t ss.length (by rw [h.2.1]; exact h.1)
    rw [h.2.1] at hr hg
    have hs := (fitsB_split hg.2).2
    have hx : x ≠ en := by
      have := hg.1
      simp only [plainB, Bool.and_eq_true, bne_iff_ne, ne_eq, decide_eq_true_eq] at this
      intro e
      apply this.1
      have := h.1
      omega
    unfold textGo
    rw [if_pos ⟨h.1, hr.2⟩, if_neg hx, CutR.text h.2.2, ByteArray.append_assoc, hs]

theorem vocLongR_text {ss : List ByteArray} {en : Int} {t : ByteArray} {r : List Int} (h : vocLongR ss en t = some r) : vocTextR ss en r = some t := by
  obtain ⟨hc, hok, hl⟩ := vocLongR_cut h
  unfold vocTextR
  rw [if_pos ⟨hok, hl⟩, hc.text ⟨#[]⟩]
  rw [show (⟨#[]⟩ : ByteArray) ++ t = t from ByteArray.empty_append]

/-- What the law FnVocLong asks of a token: it is there, it fits, and none that fits is longer. -/
theorem CutR.best {ss : List ByteArray} {en : Int} {x : Int} {xs : List Int} {t : ByteArray} (h : CutR ss en (x :: xs) t) :
    ∃ n : Nat, x = n ∧ n < ss.length ∧ (pieceAt ss n).size ≤ t.size ∧ CutR ss en xs (t.extract (pieceAt ss n).size t.size) ∧ ∀ j, j < ss.length → (j : Int) ≠ en → fitsB t (pieceAt ss j) = true → (pieceAt ss j).size ≤ (pieceAt ss n).size := by
  have hr := bestTo_range ss en t ss.length
  have hg := bestTo_good ss en t ss.length (by rw [h.2.1]; exact h.1)
  rw [h.2.1] at hr hg
  have h0 := h.1
  refine ⟨x.toNat, by omega, by omega, (fitsB_split hg.2).1, h.2.2, fun j hj hje hf => ?_⟩
  by_cases hz : 0 < (pieceAt ss j).size
  · have := bestLen_ge ss en t j (by simp [plainB, hje, hz]) hf ss.length hj
    unfold bestLen at this
    rw [h.2.1, if_neg (by omega)] at this
    exact this
  · omega

theorem rest_rest (t : ByteArray) (a b : Nat) : (t.extract a t.size).extract b (t.extract a t.size).size = t.extract (a + b) t.size := by
  rw [ByteArray.extract_extract]; congr 1; simp; omega
theorem CutR.next {ss : List ByteArray} {en : Int} {out : List Int} {t : ByteArray} {k at_ : Nat} (h : CutR ss en (out.drop k) (t.extract at_ t.size)) (ha : at_ ≤ t.size) (hk : k < out.length) :
    ∃ n : Nat, out[k] = n ∧ n < ss.length ∧ at_ + (pieceAt ss n).size ≤ t.size ∧ CutR ss en (out.drop (k + 1)) (t.extract (at_ + (pieceAt ss n).size) t.size) ∧
      ∀ j, j < ss.length → (j : Int) ≠ en → fitsB (t.extract at_ t.size) (pieceAt ss j) = true → (pieceAt ss j).size ≤ (pieceAt ss n).size := by
  rw [List.drop_eq_getElem_cons hk] at h
  obtain ⟨n, h1, h2, h3, h4, h5⟩ := h.best
  rw [rest_rest] at h4
  exact ⟨n, h1, h2, by simp at h3; omega, h4, h5⟩

set_option maxRecDepth 100000 in
set_option maxHeartbeats 2000000 in
theorem vocLong_walk (C : Option Addr) (ccap : Nat) (zs : List Int) (w : World) (hrow : Row w C (byts zs)) (hz : zs.length ≤ maxLen) (hcap : zs.length ≤ ccap) (hzs : ∀ z ∈ zs, 0 ≤ z ∧ z ≤ 255) :
    Calls Try.prog 4 #[.slice C zs.length ccap] w (True_ w) := by
  have HR := Lib.hid hrow
  have HZ := Lib.hid hzs
  clear hrow hzs
  unfold maxLen at hz
  by_cases hbig : 1048576 < zs.length
  · have hbig' : (1048576 : Int) < (zs.length : Int) := by omega
    go_enter Try.func4, Try.ntmps4
    go_wp2
    go_ret
    exact ⟨rfl, Below.refl _ _⟩
  · have hbig' : ¬ (1048576 : Int) < (zs.length : Int) := by omega
    go_enter Try.func4, Try.ntmps4
    go_wp2_with fail
    refine (drawLong_any C ccap zs _ HR.out (by omega) hcap HZ.out).mono ?_
    rintro e w1 ⟨ss, en, A, cap, t, rfl, hl, hs, he0, he1, ht, hp, hb1⟩
    have HS := Lib.hid (sz_up hs)
    have HS10 := Lib.hid hs
    have hv1 := Own.new w1 25 #[.slice A ss.length cap, .int .i64 en]
    have hp1 := (own_row hp).alloc (.cells #[.slice A ss.length cap, .int .i64 en] 25)
    have hb1' := hb1.alloc hb1.size (.cells #[.slice A ss.length cap, .int .i64 en] 25)
    clear hp hb1 hs
    go_wp2_with fail
    refine (specLong_any _ _ ss en t _ hp1 (by omega) HS.out (by omega)).mono ?_
    rintro e w2 ⟨A2, cap2, rfl, ho2, hb2⟩
    have hv2 := hv1.keep hb2
    have hp2 := hp1.keep hb2
    have hb2' := hb1'.trans (hb2.mono hb1'.size)
    clear hv1 hp1 hb1' hb2
    have c0 : w2.cell? ⟨w1.heap.size, 0, none⟩ = some (.slice A ss.length cap) := by rw [hv2.cell]; rfl
    have c1 : w2.cell? ⟨w1.heap.size, 1, none⟩ = some (.int .i64 en) := by rw [hv2.cell]; rfl
    go_wp2_with fail
    refine (implLong_any _ _ ss en t _ hp2 (by omega) HS.out (by omega)).mono ?_
    rintro e w3 ⟨A3, cap3, rfl, ho3, hb3⟩
    have hv3 := hv2.keep hb3
    have hp3 := hp2.keep hb3
    have ho2' := own_row (own_keep ho2 hb3)
    have ho3' := own_row ho3
    have hb3' := hb2'.trans (hb3.mono hb2'.size)
    clear hv2 hp2 hb2' hb3 ho2 ho3 c0 c1
    rcases hR : vocLongR ss en t with _ | out
    · rw [hR] at ho2' ho3'
      simp only [Option.getD_none, Option.isSome_none, List.length_nil] at ho2' ho3' ⊢
      go_wp2_with fail
      refine (lfInts_same _ _ _ _ [] _ ho3' ho2' (by simp)).mono ?_
      rintro e w4 ⟨rfl, hb4⟩
      go_wp2_with fail
      refine (lfInts_same _ _ _ _ [] _ (ho3'.keep hb4) (ho2'.keep hb4) (by simp)).mono ?_
      rintro e w5 ⟨rfl, hb5⟩
      go_wp2
      go_ret
      have hb4' := hb3'.trans (hb4.mono hb3'.size)
      exact ⟨rfl, hb4'.trans (hb5.mono hb4'.size)⟩
    · rw [hR] at ho2' ho3'
      simp only [Option.getD_some, Option.isSome_some] at ho2' ho3' ⊢
      obtain ⟨hcut, hok, h60⟩ := vocLongR_cut hR
      have HT := Lib.hid (vocLongR_text hR)
      have HC := Lib.hid hcut
      clear hR hcut
      go_wp2_with fail
      refine (lfInts_same _ _ _ _ out _ ho3' ho2' (by omega)).mono ?_
      rintro e w4 ⟨rfl, hb4⟩
      have HL := (LS.mk hv3 hp3 ho3' hb3').keep hb4
      clear hv3 hp3 ho3' ho2' hb3' hb4
      generalize w1.heap.size = V at HL ⊢
      have c0 := HL.c0
      have c1 := HL.c1
      go_wp2_with fail
      refine (implText_any _ _ ss en _ _ out _ HL.p HL.o (by omega) (by omega)).mono ?_
      unfold TextAns
      rw [HT.out]
      simp only [Option.getD_some, Option.isSome_some]
      rintro e w5 ⟨rfl, hb5⟩
      replace HL := HL.keep hb5
      clear hb5 c0 c1 HT
      have hse : (t.toList == t.toList) = true := by simp
      go_wp2
      go_loopw [11, 12] (fun a i wr => ∃ k at_ : Nat, k ≤ out.length ∧ a = .int .i64 at_ ∧ i = .int .i64 k ∧ at_ ≤ t.size ∧ Hid (CutR ss en (out.drop k) (t.extract at_ t.size)) ∧ LS w V en ss A cap A3 out wr) (fun _ i _ => out.length - (intOf i).toNat)
      case atStart => exact ⟨0, 0, Nat.zero_le _, rfl, rfl, Nat.zero_le _, by unfold Hid; simpa using HC.out, HL⟩
      case round =>
        clear HL
        obtain ⟨k, at_, hk, rfl, rfl, hat, HCk, HL⟩ := hrel
        by_cases hlt : k < out.length
        · obtain ⟨b3, o3, rfl, hc3⟩ := HL.o.int hlt
          obtain ⟨x, hx, hxl, hxs, hxc, hxb⟩ := HCk.out.next hat hlt
          rw [hx] at hc3
          have HX := Lib.hid hx
          have HXB := Lib.hid hxb
          have HXC := Lib.hid hxc
          clear hx hxb hxc HCk
          have hlt' : (k : Int) < (out.length : Int) := by omega
          have hat' : (at_ : Int) ≤ (t.size : Int) := by omega
          have hat0 : (0 : Int) ≤ (at_ : Int) := by omega
          rename World => W
          go_wp2
          go_loopw [13] (fun i wr => ∃ j : Nat, j ≤ ss.length ∧ i = .int .i64 j ∧ LS w V en ss A cap (some ⟨b3, o3, none⟩) out wr) (fun i _ => ss.length - (intOf i).toNat)
          case atStart => exact ⟨0, Nat.zero_le _, rfl, HL⟩
          case round =>
            clear HL hc3
            obtain ⟨j, hj, rfl, HL⟩ := hrel
            have hc3 : wr.cell? ⟨b3, o3 + k, none⟩ = some (.int .i64 x) := by
              obtain ⟨b4, o4, e4, h4⟩ := HL.o.int hlt
              injection e4 with e4; injection e4 with e5 e6; subst e5 e6
              rw [h4, HX.out]
            obtain ⟨b, off, rfl, hcx⟩ := HL.p.piece hxl
            have hxl' : (x : Int) < (ss.length : Int) := by omega
            have c0 := HL.c0
            have c1 := HL.c1
            by_cases hjx : j < ss.length
            · have hjl' : (j : Int) < (ss.length : Int) := by omega
              obtain ⟨b', off', e', hcj⟩ := HL.p.piece hjx
              injection e' with e'; injection e' with e5 e6; subst e5 e6
              by_cases hje : (j : Int) = en
              · have hg : ((j : Int) != en) = false := by simpa using hje
                clear hje
                go_wp2
                go_quiet (fail)
                go_wp2
                go_roundw
                case rel => exact ⟨j + 1, by omega, by go_num, HL.drewN _⟩
                case measure => simp [intOf]; omega
              · have hg : ((j : Int) != en) = true := by simpa using hje
                have hpj := pieceAt_size HS10.out j
                have hxt : (t.extract at_ t.size).size ≤ maxLen := by unfold maxLen; simp; omega
                cases hf : fitsB (t.extract at_ t.size) (pieceAt ss j)
                · have HF := Lib.hid hf
                  have HXT := Lib.hid hxt
                  clear hje hf hxt
                  go_wp2
                  go_quiet ((go_at_call 28; exact quiet_left (lfBegins_is _ _ _ _ HXT.out (by unfold maxLen; omega) HF.out)))
                  go_wp2
                  go_roundw
                  case rel => exact ⟨j + 1, by omega, by go_num, HL.drewN _⟩
                  case measure => simp [intOf]; omega
                · have hle := HXB.out j hjx hje hf
                  have hle' : ¬ ((pieceAt ss x).size : Int) < ((pieceAt ss j).size : Int) := by omega
                  have HF := Lib.hid hf
                  have HXT := Lib.hid hxt
                  clear hje hf hxt
                  go_wp2
                  go_quiet ((go_at_call 28; exact quiet_left (lfBegins_is _ _ _ _ HXT.out (by unfold maxLen; omega) HF.out)))
                  go_wp2
                  go_roundw
                  case rel => exact ⟨j + 1, by omega, by go_num, HL.drewN _⟩
                  case measure => simp [intOf]; omega
            · have hjx' : ¬ (j : Int) < (ss.length : Int) := by omega
              have hwr : IntKind.i64.wrap ((at_ : Int) + ((pieceAt ss x).size : Int)) = (at_ : Int) + ((pieceAt ss x).size : Int) := IntWalk.i64_in _ (by omega)
              go_wp2
              go_quiet (fail)
              go_wp2
              go_roundw
              case rel => exact ⟨k + 1, at_ + (pieceAt ss x).size, by omega, by go_num, by go_num, hxs, HXC, HL.drewN _⟩
              case measure => simp [intOf]; omega
        · have hlt' : ¬ (k : Int) < (out.length : Int) := by omega
          go_wp2
          go_ret
          exact ⟨rfl, HL.b⟩

end Go.Proofs.Ytcanhkngikeeiaa
