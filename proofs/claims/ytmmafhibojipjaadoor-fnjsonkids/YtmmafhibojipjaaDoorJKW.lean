/- The walk of the law FnJsonKids. -/
import Derived.Test.YtmmafhibojipjaaDoorJV
namespace Go.Proofs.YtmmafhibojipjaaDoor
open Go.RowKit
set_option linter.unusedVariables false

set_option maxRecDepth 100000 in
set_option maxHeartbeats 4000000 in
theorem jsonKids_walk (C : Option Addr) (ccap : Nat) (zs : List Int) (w : World) (hrow : Row w C (byts zs)) (hz : zs.length ≤ maxLen) (hcap : zs.length ≤ ccap) (hzs : ∀ z ∈ zs, 0 ≤ z ∧ z ≤ 255) :
    Calls Tryd.prog 4 #[.slice C zs.length ccap] w (LawTrue w) := by
  have HR := Lib.hid hrow
  have HZ := Lib.hid hzs
  clear hrow hzs
  unfold maxLen at hz
  by_cases hbig : 1048576 < zs.length
  · have hbig' : (1048576 : Int) < (zs.length : Int) := by omega
    go_enter Tryd.func4, Tryd.ntmps4
    go_wp2
    go_ret
    exact ⟨rfl, Below.refl _ _⟩
  have hbig' : ¬ (1048576 : Int) < (zs.length : Int) := by omega
  go_enter Tryd.func4, Tryd.ntmps4
  go_wp2_with fail
  refine (drawJsonOk_any C ccap zs _ HR.out (by omega) hcap HZ.out).mono ?_
  rintro e w1 ⟨k, f, t, ns, kids, A, K, ca, kc, rfl, hv, hl, hb1⟩
  have HL := VJ.start hv hl hb1
  clear hv hl hb1
  obtain ⟨p0, p1, p2, p3, p4⟩ := HL.cells
  have pl := HL.o.lt
  have HLH := Lib.hid HL
  clear HL
  simp only [c5]
  simp only [c5] at HLH p0 p1 p2 p3 p4 pl
  go_wp2_with fail
  clear p0 p1 p2 p3 p4 pl
  generalize w1.alloc (.cells #[.int .i64 k, .bool f, .string t, .slice A ns.length ca, .slice K kids.length kc] 26) = wv at *
  refine (implOk_any k f t ns kids A K ca kc 0 wv HLH.out.v HLH.out.l HLH.out.e).mono ?_
  rintro e w3 ⟨r, rfl, hr, hb⟩
  have HL3 := Lib.hid (HLH.out.keep hb)
  have HRR := Lib.hid hr
  clear hb hr HLH
  obtain ⟨p0, p1, p2, p3, p4⟩ := HL3.out.cells
  have pl := HL3.out.o.lt
  go_wp2_with fail
  clear p0 p1 p2 p3 p4 pl
  refine (specOk_any k f t ns kids A K ca kc 0 w3 HL3.out.v HL3.out.l).mono ?_
  rintro e w4 ⟨r2, rfl, hr2, hb⟩
  have HL4 := Lib.hid (HL3.out.keep hb)
  have hrr : r2 = r := by
    have a1 := HRR.out
    cases r2 <;> cases r <;> simp_all
  subst hrr
  clear hb hr2 HL3
  cases r2
  · obtain ⟨p0, p1, p2, p3, p4⟩ := HL4.out.cells
    have pl := HL4.out.o.lt
    go_wp2_with fail
    refine (specOk_any k f t ns kids A K ca kc 0 w4 HL4.out.v HL4.out.l).mono ?_
    rintro e w5 ⟨r3, rfl, hr3, hb⟩
    have HL5 := Lib.hid (HL4.out.keep hb)
    obtain rfl : r3 = false := by
      have a1 := HRR.out
      cases r3 <;> simp_all
    clear hb hr3 p0 p1 p2 p3 p4 pl
    go_wp2
    go_ret
    exact ⟨rfl, HL5.out.b⟩
  · have HJ := Lib.hid (HRR.out.1 rfl)
    have hkl : kids.length ≤ 1048576 := by cases HL4.out.l with | mk _ _ _ _ _ _ _ _ h4 _ => exact h4
    clear HRR
    go_wp2
    go_loopw [5] (fun c wr => ∃ i : Nat, c = .int .i64 i ∧ i ≤ kids.length ∧ Hid (VJ w w1.heap.size k f t ns kids A K ca kc wr)) (fun c _ => kids.length - (intOf c).toNat)
    case atStart => exact ⟨0, rfl, by omega, HL4⟩
    case round =>
      clear HL4
      obtain ⟨i, rfl, hin, HL⟩ := hrel
      obtain ⟨p0, p1, p2, p3, p4⟩ := HL.out.cells
      have pl := HL.out.o.lt
      by_cases hi : i < kids.length
      · have hi2 : (i : Int) < (kids.length : Int) := by omega
        obtain ⟨b, off, rfl, hra⟩ := HL.out.v.k.at_ hi
        have hmem := List.getElem_mem hi
        have hJk := HJ.out.kid hmem
        have hlk : LimJ 1048576 kids[i] := by cases HL.out.l with | mk _ _ _ _ _ _ _ _ _ h5 => exact h5 _ hmem
        obtain ⟨pk, pf, pt, pns, pkids, hpe⟩ : ∃ k f t ns ks, kids[i] = .mk k f t ns ks := by cases h : kids[i]; exact ⟨_, _, _, _, _, rfl⟩
        rw [hpe] at hra hJk hlk
        obtain ⟨PA, PK, pa, pc, hc, hv⟩ := hra.open_
        obtain ⟨c0, c1, c2, c3, c4, cle⟩ := hc
        have HC := Lib.hid (implOk_any pk pf pt pns pkids PA PK pa pc 0 wr hv hlk cle)
        have HJK := Lib.hid hJk
        clear hra hmem hJk hlk hpe hv cle
        go_wp2_with fail
        clear p0 p1 p2 p3 p4 pl c0 c1 c2 c3 c4
        refine HC.out.mono ?_
        rintro e w5 ⟨r, rfl, hr, hb⟩
        obtain rfl : r = true := hr.2 HJK.out
        have HL5 := Lib.hid (HL.out.keep hb)
        clear hb hr HC HL
        go_wp2
        go_roundw
        case rel => exact ⟨i + 1, by go_num, by omega, HL5⟩
        case measure => simp [intOf]; omega
      · have hi2 : ¬ (i : Int) < (kids.length : Int) := by omega
        by_cases hk : kids.length = 0
        · obtain rfl : kids = [] := List.length_eq_zero_iff.1 hk
          have hke : (((([] : List Js).length : Nat) : Int) == 0) = true := rfl
          clear hk hin hi
          simp only [List.length_nil] at p4 hi2 ⊢
          have HJ3 := Lib.hid (jsonP_three HJ.out)
          have HCC := Lib.hid HL.out.c
          have HLL := Lib.hid HL.out.l
          have HBB := Lib.hid HL.out.b
          go_wp2_with fail
          generalize (Question.appendCap 3 2 26).cut (wr.tape wr.drawn (Question.appendCap 3 2 26)) = cc at *
          refine gen_world (P := fun X => Calls Tryd.prog 15 _ X _) (fun W hW => ?_)
          obtain ⟨xs, HO, hxs⟩ : ∃ xs : List Value, Own W (wr.heap.size + 1 + 1 + 1) 26 xs ∧ ∃ zs, xs = [.int .i64 1, .bool false, .string ⟨#[]⟩, .slice none 0 0, .slice none 0 0, .int .i64 2, .bool true, .string ⟨#[]⟩, .slice none 0 0, .slice none 0 0, .int .i64 k, .bool f, .string t, .slice A ns.length ca, .slice K 0 kc] ++ zs := by
            rw [hW]
            exact ⟨_, (Own.new_ _ _ _ (by simp)).drew, _, by simp; rfl⟩
          have HB : Below w.heap.size w W := by
            rw [hW]
            exact ((((HBB.out.alloc HBB.out.size _).alloc (HBB.out.alloc HBB.out.size _).size _).alloc ((HBB.out.alloc HBB.out.size _).alloc (HBB.out.alloc HBB.out.size _).size _).size _).alloc (((HBB.out.alloc HBB.out.size _).alloc (HBB.out.alloc HBB.out.size _).size _).alloc ((HBB.out.alloc HBB.out.size _).alloc (HBB.out.alloc HBB.out.size _).size _).size _).size _).drew
          have HCW : JsC W (fun _ => True) (c5 k f t A ns.length ca K ([] : List Js).length kc) (.mk k f t ns []) := by
            rw [hW]
            exact HCC.out.mv' fun b hb hl => ⟨by show (World.alloc _ _).heap[b]? = _; rw [Below.heap_alloc _ _ _ (by simp; omega), Below.heap_alloc _ _ _ (by simp; omega), Below.heap_alloc _ _ _ (by simp; omega), Below.heap_alloc _ _ _ hl], trivial⟩
          clear hW
          have hjc : JsC W (fun _ => True) (c5 5 false ⟨#[]⟩ none 0 0 (some ⟨wr.heap.size + 1 + 1 + 1, 0, none⟩) (pairJ ++ [Js.mk k f t ns []]).length cc) (.mk 5 false ⟨#[]⟩ [] (pairJ ++ [Js.mk k f t ns []])) := by
            refine JsC.list (fun i => if i = 0 then c5 1 false ⟨#[]⟩ none 0 0 none 0 0 else if i = 1 then c5 2 true ⟨#[]⟩ none 0 0 none 0 0 else c5 k f t A ns.length ca K ([] : List Js).length kc) HO trivial ?_ ?_ ?_
            · intro i; split; rfl; split <;> rfl
            · obtain ⟨zs, rfl⟩ := hxs
              intro i hi j u hu
              have hj : j < 5 := by
                have := (List.getElem?_eq_some_iff.1 hu).1
                revert this
                split
                · exact id
                · split <;> exact id
              have hi3 : i < 3 := hi
              have h3 : i = 0 ∨ i = 1 ∨ i = 2 := by omega
              have h4 : j = 0 ∨ j = 1 ∨ j = 2 ∨ j = 3 ∨ j = 4 := by omega
              rcases h3 with rfl | rfl | rfl <;> rcases h4 with rfl | rfl | rfl | rfl | rfl <;> exact hu
            · intro i hi
              have hi3 : i < 3 := hi
              have h3 : i = 0 ∨ i = 1 ∨ i = 2 := by omega
              rcases h3 with rfl | rfl | rfl
              · exact JsC.bare _ _ 1 false
              · exact JsC.bare _ _ 2 true
              · exact HCW
          have hlim : LimJ 1048576 (.mk 5 false ⟨#[]⟩ [] (pairJ ++ [Js.mk k f t ns []])) := .mk 5 false _ [] _ (by decide) (by simp) (by simp) (by simp [pairJ]) (fun p hp => by
            simp [pairJ] at hp
            rcases hp with rfl | rfl | rfl
            · exact .mk _ _ _ _ _ (by decide) (by simp) (by simp) (by simp) (by simp)
            · exact .mk _ _ _ _ _ (by decide) (by simp) (by simp) (by simp) (by simp)
            · exact HLL.out)
          have HC := implOk_any 5 false ⟨#[]⟩ [] (pairJ ++ [Js.mk k f t ns []]) none (some ⟨wr.heap.size + 1 + 1 + 1, 0, none⟩) 0 cc 0 W (JsC.jsV (ca := 0) (ns := []) hjc).1 hlim (Nat.le_refl _)
          change Calls _ _ #[.agg #[.int .i64 5, .bool false, .string ⟨#[]⟩, .slice none 0 0, .slice (some ⟨wr.heap.size + 1 + 1 + 1, 0, none⟩) 3 cc]] W _ at HC
          refine HC.mono ?_
          rintro e w5 ⟨r, rfl, hr, hb⟩
          obtain rfl : r = true := hr.2 HJ3.out
          have HB5 := Lib.hid (HB.trans (hb.mono HB.size))
          clear hr hb HC hlim hjc HO HB HCW hxs
          go_wp2
          go_ret
          exact ⟨rfl, HB5.out⟩
        · have hke : ((kids.length : Int) == 0) = false := by rw [beq_eq_false_iff_ne]; omega
          have HJ3 := Lib.hid jsonP_pair
          have HBB := Lib.hid HL.out.b
          clear hin hi hk
          go_wp2_with fail
          refine gen_world (P := fun X => Calls Tryd.prog 15 _ X _) (fun W hW => ?_)
          have HO : Own W wr.heap.size 26 [.int .i64 1, .bool false, .string ⟨#[]⟩, .slice none 0 0, .slice none 0 0, .int .i64 2, .bool true, .string ⟨#[]⟩, .slice none 0 0, .slice none 0 0] := by
            rw [hW]; exact (Own.new_ wr 26 #[.int .i64 1, .bool false, .string ⟨#[]⟩, .slice none 0 0, .slice none 0 0, .int .i64 2, .bool true, .string ⟨#[]⟩, .slice none 0 0, .slice none 0 0] rfl).alloc _
          have HB : Below w.heap.size w W := by
            rw [hW]; exact (HBB.out.alloc HBB.out.size _).alloc (HBB.out.alloc HBB.out.size _).size _
          clear hW
          have hjc : JsC W (fun _ => True) (c5 5 false ⟨#[]⟩ none 0 0 (some ⟨wr.heap.size, 0, none⟩) pairJ.length 2) (.mk 5 false ⟨#[]⟩ [] pairJ) := by
            refine JsC.list (fun i => if i = 0 then c5 1 false ⟨#[]⟩ none 0 0 none 0 0 else c5 2 true ⟨#[]⟩ none 0 0 none 0 0) HO trivial ?_ ?_ ?_
            · intro i; split <;> rfl
            · intro i hi j u hu
              have hj : j < 5 := by
                have := (List.getElem?_eq_some_iff.1 hu).1
                revert this
                split <;> exact id
              have hi2 : i < 2 := hi
              have h3 : i = 0 ∨ i = 1 := by omega
              have h4 : j = 0 ∨ j = 1 ∨ j = 2 ∨ j = 3 ∨ j = 4 := by omega
              rcases h3 with rfl | rfl <;> rcases h4 with rfl | rfl | rfl | rfl | rfl <;> exact hu
            · intro i hi
              have hi2 : i < 2 := hi
              have h3 : i = 0 ∨ i = 1 := by omega
              rcases h3 with rfl | rfl
              · exact JsC.bare _ _ 1 false
              · exact JsC.bare _ _ 2 true
          have hlim : LimJ 1048576 (.mk 5 false ⟨#[]⟩ [] pairJ) := .mk 5 false _ [] _ (by decide) (by simp) (by simp) (by simp [pairJ]) (fun p hp => by
            simp [pairJ] at hp
            rcases hp with rfl | rfl
            · exact .mk _ _ _ _ _ (by decide) (by simp) (by simp) (by simp) (by simp)
            · exact .mk _ _ _ _ _ (by decide) (by simp) (by simp) (by simp) (by simp))
          have HC := implOk_any 5 false ⟨#[]⟩ [] pairJ none (some ⟨wr.heap.size, 0, none⟩) 0 2 0 W (JsC.jsV (ca := 0) (ns := []) hjc).1 hlim (Nat.le_refl _)
          change Calls _ _ #[.agg #[.int .i64 5, .bool false, .string ⟨#[]⟩, .slice none 0 0, .slice (some ⟨wr.heap.size, 0, none⟩) 2 2]] W _ at HC
          refine HC.mono ?_
          rintro e w5 ⟨r, rfl, hr, hb⟩
          obtain rfl : r = true := hr.2 HJ3.out
          have HB5 := Lib.hid (HB.trans (hb.mono HB.size))
          clear hr hb HC hlim hjc HO HB
          go_wp2
          go_ret
          exact ⟨rfl, HB5.out⟩
end Go.Proofs.YtmmafhibojipjaaDoor
