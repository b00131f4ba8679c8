/- The walk of the law FnJsonFlag. -/
import Derived.Test.YtmmafhibojipjaaDoorJV
namespace Go.Proofs.YtmmafhibojipjaaDoor
open Go.RowKit
set_option linter.unusedVariables false

theorem first_of {s : ByteArray} {l : List UInt8} (h : bl s = l) (h0 : 0 < s.size) : l.head? = some (s[0]'h0) := by rw [← h]; exact head_bl h0
theorem num_first {t : ByteArray} {b : UInt8} (h : NumP t) (hb : (bl t).head? = some b) : b.toNat = 45 ∨ (48 ≤ b.toNat ∧ b.toNat ≤ 57) := by
  by_cases h45 : (bl t).head? = some 45
  · rw [h45] at hb; injection hb with hb; subst hb; exact .inl rfl
  · obtain ⟨_, _, h3, _⟩ := h
    have hf : figs (bl t) = bl t := if_neg h45
    rw [hf] at h3
    exact .inr (h3 b (List.mem_of_mem_head? hb))

set_option maxRecDepth 100000 in
set_option maxHeartbeats 4000000 in
theorem jsonFlag_walk (C : Option Addr) (ccap : Nat) (zs : List Int) (w : World) (hrow : Row w C (byts zs)) (hz : zs.length ≤ maxLen) (hcap : zs.length ≤ ccap) (hzs : ∀ z ∈ zs, 0 ≤ z ∧ z ≤ 255) :
    Calls Tryd.prog 8 #[.slice C zs.length ccap] w (LawTrue w) := by
  have HR := Lib.hid hrow
  have HZ := Lib.hid hzs
  clear hrow hzs
  unfold maxLen at hz
  by_cases hbig : 1048576 < zs.length
  · have hbig' : (1048576 : Int) < (zs.length : Int) := by omega
    go_enter Tryd.func8, Tryd.ntmps8
    go_wp2
    go_ret
    exact ⟨rfl, Below.refl _ _⟩
  have hbig' : ¬ (1048576 : Int) < (zs.length : Int) := by omega
  go_enter Tryd.func8, Tryd.ntmps8
  go_wp2_with fail
  refine (drawJsonWrite_any C ccap zs _ HR.out (by omega) hcap HZ.out).mono ?_
  rintro e w1 ⟨k, f, t, ns, kids, A, K, ca, kc, rfl, hv, hl, hle, hb1⟩
  have HL := VJ.start (kc := kc) hv hl hle hb1
  clear hv hl hle hb1
  obtain ⟨p0, p1, p2, p3, p4⟩ := HL.cells
  have pl := HL.o.lt
  have HLH := Lib.hid HL
  clear HL
  simp only [c5]
  simp only [c5] at HLH p0 p1 p2 p3 p4 pl
  go_wp2_with fail
  clear p0 p1 p2 p3 p4 pl
  generalize w1.alloc (.cells #[.int .i64 k, .bool f, .string t, .slice A ns.length ca, .slice K kids.length kc] 26) = wv at *
  refine (implWrite_any k f t ns kids A K ca kc 0 wv HLH.out.v HLH.out.l HLH.out.e).mono ?_
  rintro e w3 ⟨s, rfl, hs, hsn, hb⟩
  have HL3 := Lib.hid (HLH.out.keep hb)
  have HS := Lib.hid (And.intro hs hsn)
  clear hb hs hsn HLH
  obtain ⟨p0, p1, p2, p3, p4⟩ := HL3.out.cells
  have pl := HL3.out.o.lt
  go_wp2_with fail
  clear p0 p1 p2 p3 p4 pl
  refine (specWrite_any k f t ns kids A K ca kc 0 w3 HL3.out.v HL3.out.l).mono ?_
  rintro e w4 ⟨s2, rfl, hs2, hs2n, hb⟩
  have HL4 := Lib.hid (HL3.out.keep hb)
  have hss : s2 = s := by
    by_cases h : JsonP (.mk k f t ns kids)
    · exact bl_inj ((hs2 h).trans (HS.out.1 h).symm)
    · exact bl_inj ((hs2n h).trans (HS.out.2 h).symm)
  subst hss
  clear hb hs2 hs2n HL3
  by_cases hJ : JsonP (.mk k f t ns kids)
  · have HSJ := Lib.hid (HS.out.1 hJ)
    have HJ := Lib.hid hJ
    clear hJ HS
    have hpos : 0 < s2.size := by
      have h1 := jtx_pos HJ.out.2.1.one
      rw [← HSJ.out, ← bl_size] at h1
      omega
    have hne : s2.toList.isEmpty = false := by rw [empty_iff]; exact decide_eq_false (by omega)
    have hpi : (0 : Int) < (s2.size : Int) := by omega
    have HX := first_of HSJ.out hpos
    rw [jtx_mk] at HX
    obtain ⟨p0, p1, p2, p3, p4⟩ := HL4.out.cells
    have pl := HL4.out.o.lt
    have HJO := HJ.out.2.1.one
    clear HSJ HJ
    generalize hb : s2[0]'hpos = b at HX
    rcases HJO with ⟨rfl, _⟩ | ⟨rfl, _⟩ | ⟨rfl, _, h3, _⟩ | ⟨rfl, _⟩ | ⟨rfl, _⟩ | ⟨rfl, _⟩
    · -- null
      obtain rfl : b = 110 := by simpa [nullT] using HX.symm
      clear HX
      have c110 : (((s2[0]'hpos).toNat : Int) == 110) = true := by rw [hb]; rfl
      have c116 : (((s2[0]'hpos).toNat : Int) == 116) = false := by rw [hb]; rfl
      have c102 : (((s2[0]'hpos).toNat : Int) == 102) = false := by rw [hb]; rfl
      have c34 : (((s2[0]'hpos).toNat : Int) == 34) = false := by rw [hb]; rfl
      have c91 : (((s2[0]'hpos).toNat : Int) == 91) = false := by rw [hb]; rfl
      have c123 : (((s2[0]'hpos).toNat : Int) == 123) = false := by rw [hb]; rfl
      clear hb
      go_wp2
      go_ret
      exact ⟨rfl, HL4.out.b⟩
    · cases f
      · obtain rfl : b = 102 := by simpa [falseT] using HX.symm
        clear HX
        have c110 : (((s2[0]'hpos).toNat : Int) == 110) = false := by rw [hb]; rfl
        have c116 : (((s2[0]'hpos).toNat : Int) == 116) = false := by rw [hb]; rfl
        have c102 : (((s2[0]'hpos).toNat : Int) == 102) = true := by rw [hb]; rfl
        have c34 : (((s2[0]'hpos).toNat : Int) == 34) = false := by rw [hb]; rfl
        have c91 : (((s2[0]'hpos).toNat : Int) == 91) = false := by rw [hb]; rfl
        have c123 : (((s2[0]'hpos).toNat : Int) == 123) = false := by rw [hb]; rfl
        clear hb
        go_wp2
        refine wp_region_held_drew (S := (fun X => X.cell? ⟨w1.heap.size, 0, none⟩ = some (.int .i64 2) ∧ X.cell? ⟨w1.heap.size, 1, none⟩ = some (.bool false))) (by kernel_rfl) ?_ (fun hHeld => ?_)
        · exact ⟨p0, p1⟩
        (first
          | (refine held_take (i := 0) (v := ?_) rfl (by kernel_rfl) (by kernel_rfl) (by kernel_rfl) (fun _ _ _ h => h) (Or.inl ⟨rfl, ?_⟩) (by assumption) ?_; rotate_left; (intro X hSw; (try dsimp only at hSw); (go_simp <;> with_reducible rfl)))
          | (refine held_take (i := 0) (v := undef) rfl (by kernel_rfl) (by kernel_rfl) (by kernel_rfl) (fun _ _ _ h => h) (Or.inr ⟨rfl, rfl⟩) (by assumption) ?_)); simp only [Act.put, List.setIfInBounds_toArray, List.set_cons_zero, List.set_cons_succ]
        (first
          | (refine held_take (i := 1) (v := ?_) rfl (by kernel_rfl) (by kernel_rfl) (by kernel_rfl) (fun _ _ _ h => h) (Or.inl ⟨rfl, ?_⟩) (by assumption) ?_; rotate_left; (intro X hSw; (try dsimp only at hSw); (go_simp <;> with_reducible rfl)))
          | (refine held_take (i := 1) (v := undef) rfl (by kernel_rfl) (by kernel_rfl) (by kernel_rfl) (fun _ _ _ h => h) (Or.inr ⟨rfl, rfl⟩) (by assumption) ?_)); simp only [Act.put, List.setIfInBounds_toArray, List.set_cons_zero, List.set_cons_succ]
        (first
          | (refine held_take (i := 2) (v := ?_) rfl (by kernel_rfl) (by kernel_rfl) (by kernel_rfl) (fun _ _ _ h => h) (Or.inl ⟨rfl, ?_⟩) (by assumption) ?_; rotate_left; (intro X hSw; (try dsimp only at hSw); (go_simp <;> with_reducible rfl)))
          | (refine held_take (i := 2) (v := undef) rfl (by kernel_rfl) (by kernel_rfl) (by kernel_rfl) (fun _ _ _ h => h) (Or.inr ⟨rfl, rfl⟩) (by assumption) ?_)); simp only [Act.put, List.setIfInBounds_toArray, List.set_cons_zero, List.set_cons_succ]
        (first
          | (refine held_take (i := 3) (v := ?_) rfl (by kernel_rfl) (by kernel_rfl) (by kernel_rfl) (fun _ _ _ h => h) (Or.inl ⟨rfl, ?_⟩) (by assumption) ?_; rotate_left; (intro X hSw; (try dsimp only at hSw); (go_simp <;> with_reducible rfl)))
          | (refine held_take (i := 3) (v := undef) rfl (by kernel_rfl) (by kernel_rfl) (by kernel_rfl) (fun _ _ _ h => h) (Or.inr ⟨rfl, rfl⟩) (by assumption) ?_)); simp only [Act.put, List.setIfInBounds_toArray, List.set_cons_zero, List.set_cons_succ]
        (first
          | (refine held_take (i := 4) (v := ?_) rfl (by kernel_rfl) (by kernel_rfl) (by kernel_rfl) (fun _ _ _ h => h) (Or.inl ⟨rfl, ?_⟩) (by assumption) ?_; rotate_left; (intro X hSw; (try dsimp only at hSw); (go_simp <;> with_reducible rfl)))
          | (refine held_take (i := 4) (v := undef) rfl (by kernel_rfl) (by kernel_rfl) (by kernel_rfl) (fun _ _ _ h => h) (Or.inr ⟨rfl, rfl⟩) (by assumption) ?_)); simp only [Act.put, List.setIfInBounds_toArray, List.set_cons_zero, List.set_cons_succ]
        (first
          | (refine held_take (i := 5) (v := ?_) rfl (by kernel_rfl) (by kernel_rfl) (by kernel_rfl) (fun _ _ _ h => h) (Or.inl ⟨rfl, ?_⟩) (by assumption) ?_; rotate_left; (intro X hSw; (try dsimp only at hSw); (go_simp <;> with_reducible rfl)))
          | (refine held_take (i := 5) (v := undef) rfl (by kernel_rfl) (by kernel_rfl) (by kernel_rfl) (fun _ _ _ h => h) (Or.inr ⟨rfl, rfl⟩) (by assumption) ?_)); simp only [Act.put, List.setIfInBounds_toArray, List.set_cons_zero, List.set_cons_succ]
        (first
          | (refine held_take (i := 6) (v := ?_) rfl (by kernel_rfl) (by kernel_rfl) (by kernel_rfl) (fun _ _ _ h => h) (Or.inl ⟨rfl, ?_⟩) (by assumption) ?_; rotate_left; (intro X hSw; (try dsimp only at hSw); (go_simp <;> with_reducible rfl)))
          | (refine held_take (i := 6) (v := undef) rfl (by kernel_rfl) (by kernel_rfl) (by kernel_rfl) (fun _ _ _ h => h) (Or.inr ⟨rfl, rfl⟩) (by assumption) ?_)); simp only [Act.put, List.setIfInBounds_toArray, List.set_cons_zero, List.set_cons_succ]
        (first
          | (refine held_take (i := 7) (v := ?_) rfl (by kernel_rfl) (by kernel_rfl) (by kernel_rfl) (fun _ _ _ h => h) (Or.inl ⟨rfl, ?_⟩) (by assumption) ?_; rotate_left; (intro X hSw; (try dsimp only at hSw); (go_simp <;> with_reducible rfl)))
          | (refine held_take (i := 7) (v := undef) rfl (by kernel_rfl) (by kernel_rfl) (by kernel_rfl) (fun _ _ _ h => h) (Or.inr ⟨rfl, rfl⟩) (by assumption) ?_)); simp only [Act.put, List.setIfInBounds_toArray, List.set_cons_zero, List.set_cons_succ]
        (first
          | (refine held_take (i := 8) (v := ?_) rfl (by kernel_rfl) (by kernel_rfl) (by kernel_rfl) (fun _ _ _ h => h) (Or.inl ⟨rfl, ?_⟩) (by assumption) ?_; rotate_left; (intro X hSw; (try dsimp only at hSw); (go_simp <;> with_reducible rfl)))
          | (refine held_take (i := 8) (v := undef) rfl (by kernel_rfl) (by kernel_rfl) (by kernel_rfl) (fun _ _ _ h => h) (Or.inr ⟨rfl, rfl⟩) (by assumption) ?_)); simp only [Act.put, List.setIfInBounds_toArray, List.set_cons_zero, List.set_cons_succ]
        (first
          | (refine held_take (i := 9) (v := ?_) rfl (by kernel_rfl) (by kernel_rfl) (by kernel_rfl) (fun _ _ _ h => h) (Or.inl ⟨rfl, ?_⟩) (by assumption) ?_; rotate_left; (intro X hSw; (try dsimp only at hSw); (go_simp <;> with_reducible rfl)))
          | (refine held_take (i := 9) (v := undef) rfl (by kernel_rfl) (by kernel_rfl) (by kernel_rfl) (fun _ _ _ h => h) (Or.inr ⟨rfl, rfl⟩) (by assumption) ?_)); simp only [Act.put, List.setIfInBounds_toArray, List.set_cons_zero, List.set_cons_succ]
        (first
          | (refine held_take (i := 10) (v := ?_) rfl (by kernel_rfl) (by kernel_rfl) (by kernel_rfl) (fun _ _ _ h => h) (Or.inl ⟨rfl, ?_⟩) (by assumption) ?_; rotate_left; (intro X hSw; (try dsimp only at hSw); (go_simp <;> with_reducible rfl)))
          | (refine held_take (i := 10) (v := undef) rfl (by kernel_rfl) (by kernel_rfl) (by kernel_rfl) (fun _ _ _ h => h) (Or.inr ⟨rfl, rfl⟩) (by assumption) ?_)); simp only [Act.put, List.setIfInBounds_toArray, List.set_cons_zero, List.set_cons_succ]
        (first
          | (refine held_take (i := 11) (v := ?_) rfl (by kernel_rfl) (by kernel_rfl) (by kernel_rfl) (fun _ _ _ h => h) (Or.inl ⟨rfl, ?_⟩) (by assumption) ?_; rotate_left; (intro X hSw; (try dsimp only at hSw); (go_simp <;> with_reducible rfl)))
          | (refine held_take (i := 11) (v := undef) rfl (by kernel_rfl) (by kernel_rfl) (by kernel_rfl) (fun _ _ _ h => h) (Or.inr ⟨rfl, rfl⟩) (by assumption) ?_)); simp only [Act.put, List.setIfInBounds_toArray, List.set_cons_zero, List.set_cons_succ]
        refine wpAnyH_done (by kernel_rfl) ?_ _
        go_wp2
        go_ret
        exact ⟨rfl, HL4.out.b.drew⟩
      · obtain rfl : b = 116 := by simpa [trueT] using HX.symm
        clear HX
        have c110 : (((s2[0]'hpos).toNat : Int) == 110) = false := by rw [hb]; rfl
        have c116 : (((s2[0]'hpos).toNat : Int) == 116) = true := by rw [hb]; rfl
        have c102 : (((s2[0]'hpos).toNat : Int) == 102) = false := by rw [hb]; rfl
        have c34 : (((s2[0]'hpos).toNat : Int) == 34) = false := by rw [hb]; rfl
        have c91 : (((s2[0]'hpos).toNat : Int) == 91) = false := by rw [hb]; rfl
        have c123 : (((s2[0]'hpos).toNat : Int) == 123) = false := by rw [hb]; rfl
        clear hb
        go_wp2
        refine wp_region_held_drew (S := (fun X => X.cell? ⟨w1.heap.size, 0, none⟩ = some (.int .i64 2) ∧ X.cell? ⟨w1.heap.size, 1, none⟩ = some (.bool true))) (by kernel_rfl) ?_ (fun hHeld => ?_)
        · exact ⟨p0, p1⟩
        (first
          | (refine held_take (i := 0) (v := ?_) rfl (by kernel_rfl) (by kernel_rfl) (by kernel_rfl) (fun _ _ _ h => h) (Or.inl ⟨rfl, ?_⟩) (by assumption) ?_; rotate_left; (intro X hSw; (try dsimp only at hSw); (go_simp <;> with_reducible rfl)))
          | (refine held_take (i := 0) (v := undef) rfl (by kernel_rfl) (by kernel_rfl) (by kernel_rfl) (fun _ _ _ h => h) (Or.inr ⟨rfl, rfl⟩) (by assumption) ?_)); simp only [Act.put, List.setIfInBounds_toArray, List.set_cons_zero, List.set_cons_succ]
        (first
          | (refine held_take (i := 1) (v := ?_) rfl (by kernel_rfl) (by kernel_rfl) (by kernel_rfl) (fun _ _ _ h => h) (Or.inl ⟨rfl, ?_⟩) (by assumption) ?_; rotate_left; (intro X hSw; (try dsimp only at hSw); (go_simp <;> with_reducible rfl)))
          | (refine held_take (i := 1) (v := undef) rfl (by kernel_rfl) (by kernel_rfl) (by kernel_rfl) (fun _ _ _ h => h) (Or.inr ⟨rfl, rfl⟩) (by assumption) ?_)); simp only [Act.put, List.setIfInBounds_toArray, List.set_cons_zero, List.set_cons_succ]
        (first
          | (refine held_take (i := 2) (v := ?_) rfl (by kernel_rfl) (by kernel_rfl) (by kernel_rfl) (fun _ _ _ h => h) (Or.inl ⟨rfl, ?_⟩) (by assumption) ?_; rotate_left; (intro X hSw; (try dsimp only at hSw); (go_simp <;> with_reducible rfl)))
          | (refine held_take (i := 2) (v := undef) rfl (by kernel_rfl) (by kernel_rfl) (by kernel_rfl) (fun _ _ _ h => h) (Or.inr ⟨rfl, rfl⟩) (by assumption) ?_)); simp only [Act.put, List.setIfInBounds_toArray, List.set_cons_zero, List.set_cons_succ]
        (first
          | (refine held_take (i := 3) (v := ?_) rfl (by kernel_rfl) (by kernel_rfl) (by kernel_rfl) (fun _ _ _ h => h) (Or.inl ⟨rfl, ?_⟩) (by assumption) ?_; rotate_left; (intro X hSw; (try dsimp only at hSw); (go_simp <;> with_reducible rfl)))
          | (refine held_take (i := 3) (v := undef) rfl (by kernel_rfl) (by kernel_rfl) (by kernel_rfl) (fun _ _ _ h => h) (Or.inr ⟨rfl, rfl⟩) (by assumption) ?_)); simp only [Act.put, List.setIfInBounds_toArray, List.set_cons_zero, List.set_cons_succ]
        (first
          | (refine held_take (i := 4) (v := ?_) rfl (by kernel_rfl) (by kernel_rfl) (by kernel_rfl) (fun _ _ _ h => h) (Or.inl ⟨rfl, ?_⟩) (by assumption) ?_; rotate_left; (intro X hSw; (try dsimp only at hSw); (go_simp <;> with_reducible rfl)))
          | (refine held_take (i := 4) (v := undef) rfl (by kernel_rfl) (by kernel_rfl) (by kernel_rfl) (fun _ _ _ h => h) (Or.inr ⟨rfl, rfl⟩) (by assumption) ?_)); simp only [Act.put, List.setIfInBounds_toArray, List.set_cons_zero, List.set_cons_succ]
        (first
          | (refine held_take (i := 5) (v := ?_) rfl (by kernel_rfl) (by kernel_rfl) (by kernel_rfl) (fun _ _ _ h => h) (Or.inl ⟨rfl, ?_⟩) (by assumption) ?_; rotate_left; (intro X hSw; (try dsimp only at hSw); (go_simp <;> with_reducible rfl)))
          | (refine held_take (i := 5) (v := undef) rfl (by kernel_rfl) (by kernel_rfl) (by kernel_rfl) (fun _ _ _ h => h) (Or.inr ⟨rfl, rfl⟩) (by assumption) ?_)); simp only [Act.put, List.setIfInBounds_toArray, List.set_cons_zero, List.set_cons_succ]
        (first
          | (refine held_take (i := 6) (v := ?_) rfl (by kernel_rfl) (by kernel_rfl) (by kernel_rfl) (fun _ _ _ h => h) (Or.inl ⟨rfl, ?_⟩) (by assumption) ?_; rotate_left; (intro X hSw; (try dsimp only at hSw); (go_simp <;> with_reducible rfl)))
          | (refine held_take (i := 6) (v := undef) rfl (by kernel_rfl) (by kernel_rfl) (by kernel_rfl) (fun _ _ _ h => h) (Or.inr ⟨rfl, rfl⟩) (by assumption) ?_)); simp only [Act.put, List.setIfInBounds_toArray, List.set_cons_zero, List.set_cons_succ]
        (first
          | (refine held_take (i := 7) (v := ?_) rfl (by kernel_rfl) (by kernel_rfl) (by kernel_rfl) (fun _ _ _ h => h) (Or.inl ⟨rfl, ?_⟩) (by assumption) ?_; rotate_left; (intro X hSw; (try dsimp only at hSw); (go_simp <;> with_reducible rfl)))
          | (refine held_take (i := 7) (v := undef) rfl (by kernel_rfl) (by kernel_rfl) (by kernel_rfl) (fun _ _ _ h => h) (Or.inr ⟨rfl, rfl⟩) (by assumption) ?_)); simp only [Act.put, List.setIfInBounds_toArray, List.set_cons_zero, List.set_cons_succ]
        (first
          | (refine held_take (i := 8) (v := ?_) rfl (by kernel_rfl) (by kernel_rfl) (by kernel_rfl) (fun _ _ _ h => h) (Or.inl ⟨rfl, ?_⟩) (by assumption) ?_; rotate_left; (intro X hSw; (try dsimp only at hSw); (go_simp <;> with_reducible rfl)))
          | (refine held_take (i := 8) (v := undef) rfl (by kernel_rfl) (by kernel_rfl) (by kernel_rfl) (fun _ _ _ h => h) (Or.inr ⟨rfl, rfl⟩) (by assumption) ?_)); simp only [Act.put, List.setIfInBounds_toArray, List.set_cons_zero, List.set_cons_succ]
        (first
          | (refine held_take (i := 9) (v := ?_) rfl (by kernel_rfl) (by kernel_rfl) (by kernel_rfl) (fun _ _ _ h => h) (Or.inl ⟨rfl, ?_⟩) (by assumption) ?_; rotate_left; (intro X hSw; (try dsimp only at hSw); (go_simp <;> with_reducible rfl)))
          | (refine held_take (i := 9) (v := undef) rfl (by kernel_rfl) (by kernel_rfl) (by kernel_rfl) (fun _ _ _ h => h) (Or.inr ⟨rfl, rfl⟩) (by assumption) ?_)); simp only [Act.put, List.setIfInBounds_toArray, List.set_cons_zero, List.set_cons_succ]
        (first
          | (refine held_take (i := 10) (v := ?_) rfl (by kernel_rfl) (by kernel_rfl) (by kernel_rfl) (fun _ _ _ h => h) (Or.inl ⟨rfl, ?_⟩) (by assumption) ?_; rotate_left; (intro X hSw; (try dsimp only at hSw); (go_simp <;> with_reducible rfl)))
          | (refine held_take (i := 10) (v := undef) rfl (by kernel_rfl) (by kernel_rfl) (by kernel_rfl) (fun _ _ _ h => h) (Or.inr ⟨rfl, rfl⟩) (by assumption) ?_)); simp only [Act.put, List.setIfInBounds_toArray, List.set_cons_zero, List.set_cons_succ]
        (first
          | (refine held_take (i := 11) (v := ?_) rfl (by kernel_rfl) (by kernel_rfl) (by kernel_rfl) (fun _ _ _ h => h) (Or.inl ⟨rfl, ?_⟩) (by assumption) ?_; rotate_left; (intro X hSw; (try dsimp only at hSw); (go_simp <;> with_reducible rfl)))
          | (refine held_take (i := 11) (v := undef) rfl (by kernel_rfl) (by kernel_rfl) (by kernel_rfl) (fun _ _ _ h => h) (Or.inr ⟨rfl, rfl⟩) (by assumption) ?_)); simp only [Act.put, List.setIfInBounds_toArray, List.set_cons_zero, List.set_cons_succ]
        refine wpAnyH_done (by kernel_rfl) ?_ _
        go_wp2
        go_ret
        exact ⟨rfl, HL4.out.b.drew⟩
    · have hbn := num_first h3 (by simpa using HX)
      clear HX h3
      have c110 : (((s2[0]'hpos).toNat : Int) == 110) = false := by rw [hb, beq_eq_false_iff_ne]; omega
      have c116 : (((s2[0]'hpos).toNat : Int) == 116) = false := by rw [hb, beq_eq_false_iff_ne]; omega
      have c102 : (((s2[0]'hpos).toNat : Int) == 102) = false := by rw [hb, beq_eq_false_iff_ne]; omega
      have c34 : (((s2[0]'hpos).toNat : Int) == 34) = false := by rw [hb, beq_eq_false_iff_ne]; omega
      have c91 : (((s2[0]'hpos).toNat : Int) == 91) = false := by rw [hb, beq_eq_false_iff_ne]; omega
      have c123 : (((s2[0]'hpos).toNat : Int) == 123) = false := by rw [hb, beq_eq_false_iff_ne]; omega
      clear hb hbn
      go_wp2
      go_ret
      exact ⟨rfl, HL4.out.b⟩
    · -- text
      obtain rfl : b = 34 := by simpa [quo] using HX.symm
      clear HX
      have c110 : (((s2[0]'hpos).toNat : Int) == 110) = false := by rw [hb]; rfl
      have c116 : (((s2[0]'hpos).toNat : Int) == 116) = false := by rw [hb]; rfl
      have c102 : (((s2[0]'hpos).toNat : Int) == 102) = false := by rw [hb]; rfl
      have c34 : (((s2[0]'hpos).toNat : Int) == 34) = true := by rw [hb]; rfl
      have c91 : (((s2[0]'hpos).toNat : Int) == 91) = false := by rw [hb]; rfl
      have c123 : (((s2[0]'hpos).toNat : Int) == 123) = false := by rw [hb]; rfl
      clear hb
      go_wp2
      go_ret
      exact ⟨rfl, HL4.out.b⟩
    · -- list
      obtain rfl : b = 91 := by simpa using HX.symm
      clear HX
      have c110 : (((s2[0]'hpos).toNat : Int) == 110) = false := by rw [hb]; rfl
      have c116 : (((s2[0]'hpos).toNat : Int) == 116) = false := by rw [hb]; rfl
      have c102 : (((s2[0]'hpos).toNat : Int) == 102) = false := by rw [hb]; rfl
      have c34 : (((s2[0]'hpos).toNat : Int) == 34) = false := by rw [hb]; rfl
      have c91 : (((s2[0]'hpos).toNat : Int) == 91) = true := by rw [hb]; rfl
      have c123 : (((s2[0]'hpos).toNat : Int) == 123) = false := by rw [hb]; rfl
      clear hb
      go_wp2
      go_ret
      exact ⟨rfl, HL4.out.b⟩
    · -- form
      obtain rfl : b = 123 := by simpa using HX.symm
      clear HX
      have c110 : (((s2[0]'hpos).toNat : Int) == 110) = false := by rw [hb]; rfl
      have c116 : (((s2[0]'hpos).toNat : Int) == 116) = false := by rw [hb]; rfl
      have c102 : (((s2[0]'hpos).toNat : Int) == 102) = false := by rw [hb]; rfl
      have c34 : (((s2[0]'hpos).toNat : Int) == 34) = false := by rw [hb]; rfl
      have c91 : (((s2[0]'hpos).toNat : Int) == 91) = false := by rw [hb]; rfl
      have c123 : (((s2[0]'hpos).toNat : Int) == 123) = true := by rw [hb]; rfl
      clear hb
      go_wp2
      go_ret
      exact ⟨rfl, HL4.out.b⟩
  · obtain rfl : s2 = ⟨#[]⟩ := bl_inj (HS.out.2 hJ)
    have HNJ := Lib.hid hJ
    clear hJ HS
    obtain ⟨p0, p1, p2, p3, p4⟩ := HL4.out.cells
    have pl := HL4.out.o.lt
    have hne : (⟨#[]⟩ : ByteArray).toList.isEmpty = true := by rw [empty_iff]; rfl
    go_wp2_with fail
    refine (specWrite_any k f t ns kids A K ca kc 0 w4 HL4.out.v HL4.out.l).mono ?_
    rintro e w5 ⟨s3, rfl, hs3, hs3n, hb⟩
    obtain rfl : s3 = ⟨#[]⟩ := bl_inj (hs3n HNJ.out)
    have HL5 := Lib.hid (HL4.out.keep hb)
    clear hb hs3 hs3n p0 p1 p2 p3 p4 pl
    go_wp2
    go_ret
    exact ⟨rfl, HL5.out.b⟩
end Go.Proofs.YtmmafhibojipjaaDoor
