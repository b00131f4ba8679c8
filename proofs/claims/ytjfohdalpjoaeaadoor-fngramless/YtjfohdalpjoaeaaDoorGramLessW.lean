/- The walk of the law FnGramLess: it returns true for every code, and writes nothing that was there. -/
import Derived.Test.YtjfohdalpjoaeaaDoorY11
import Derived.Test.YtjfohdalpjoaeaaDoorP19
namespace Go.Proofs.YtjfohdalpjoaeaaDoor
open Go.RowKit
set_option linter.unusedVariables false

def LessTrue (w : World) (e : Ending) (w' : World) : Prop := e = .returned (.bool true) ∧ Below w.heap.size w w'

/-- What the walk has in memory: the grammar in block V. -/
structure LS (w0 : World) (V : Nat) (rs : List Ru) (a : Option Addr) (c : Nat) (w : World) : Prop where
  v : Own w V 25 [.slice a rs.length c]
  r : Rus w 0 a rs
  b : Below w0.heap.size w0 w
theorem LS.keep {w0 w w' : World} {V : Nat} {rs : List Ru} {a : Option Addr} {c : Nat} (h : LS w0 V rs a c w) (hb : Below w.heap.size w w') : LS w0 V rs a c w' := ⟨h.v.keep hb, h.r.keep hb, h.b.trans (hb.mono h.b.size)⟩
theorem LS.c0 {w0 w : World} {V : Nat} {rs : List Ru} {a : Option Addr} {c : Nat} (h : LS w0 V rs a c w) : w.cell? ⟨V, 0, none⟩ = some (.slice a rs.length c) := by rw [h.v.cell]; rfl
theorem Rus.take {w : World} {a : Option Addr} {rs : List Ru} (h : Rus w 0 a rs) (n : Nat) : Rus w 0 a (rs.take n) := by
  rcases h with h | ⟨b, off, e, h0, h⟩
  · subst h; simp; exact .inl rfl
  · exact .inr ⟨b, off, e, h0, fun i hi => by rw [List.getElem_take]; exact h i (by simp at hi; omega)⟩

set_option maxRecDepth 100000 in
set_option maxHeartbeats 4000000 in
theorem gramLess_walk (C : Option Addr) (ccap : Nat) (zs : List Int) (w : World) (hrow : Row w C (byts zs)) (hz : zs.length ≤ maxLen) (hcap : zs.length ≤ ccap) (hzs : ∀ z ∈ zs, 0 ≤ z ∧ z ≤ 255) :
    Calls Tryd.prog 3 #[.slice C zs.length ccap] w (LessTrue w) := by
  have HR := Lib.hid hrow
  have HZ := Lib.hid hzs
  clear hrow hzs
  unfold maxLen at hz
  by_cases hbig : 1048576 < zs.length
  · have hbig' : (1048576 : Int) < (zs.length : Int) := by omega
    go_enter Tryd.func3, Tryd.ntmps3
    go_wp2
    go_ret
    exact ⟨rfl, Below.refl _ _⟩
  have hbig' : ¬ (1048576 : Int) < (zs.length : Int) := by omega
  go_enter Tryd.func3, Tryd.ntmps3
  go_wp2_with fail
  refine (drawGramOk_any C ccap zs _ HR.out (by omega) hcap HZ.out).mono ?_
  rintro e w1 ⟨rs, a, c, rfl, hr, hl, hn, hc, hb1⟩
  have HL : LS w w1.heap.size rs a c (w1.alloc (.cells #[.slice a rs.length c] 25)) := ⟨Own.new w1 25 #[.slice a rs.length c], hr.keep (below_box _), hb1.alloc hb1.size _⟩
  have HLR : Hid (LimR 1048576 rs) := hl.up (by omega)
  clear hr hl hb1
  have c0 := HL.c0
  go_wp2_with fail
  refine (specGramOk_any rs a c 0 _ HL.r (by omega) HLR.out).mono ?_
  rintro e w2 ⟨ok, rfl, hok, hb⟩
  replace HL := HL.keep hb
  have HOK := Lib.hid hok
  clear hb hok c0
  have c0 := HL.c0
  by_cases hG : GramP rs
  · obtain rfl : ok = true := HOK.out.2 hG
    have HG := Lib.hid hG
    clear hG HOK
    go_wp2_with fail
    refine (BoolPost.yes (implGramOk_any rs a c 0 _ HL.r (by omega) HLR.out) HG.out).mono ?_
    rintro e w3 ⟨rfl, hb⟩
    replace HL := HL.keep hb
    clear hb c0
    have c0 := HL.c0
    by_cases h2 : rs.length < 2
    · have h2' : (rs.length : Int) < 2 := by omega
      go_wp2_with fail
      refine (BoolPost.yes (implGramOk_any rs a c 0 _ HL.r (by omega) HLR.out) HG.out).mono ?_
      rintro e w4 ⟨rfl, hb⟩
      replace HL := HL.keep hb
      clear hb c0
      go_wp2
      go_ret
      exact ⟨rfl, HL.b⟩
    · have h2' : ¬ (rs.length : Int) < 2 := by omega
      have hlast : rs.length - 1 < rs.length := by omega
      obtain ⟨b, off, rfl, hra⟩ := HL.r.at_ hlast
      have n0 := hra.n
      have hi0 : 0 ≤ (rs.length : Int) - 1 := by omega
      have hi1 : (rs.length : Int) - 1 < (rs.length : Int) := by omega
      have hit : ((rs.length : Int) - 1).toNat = rs.length - 1 := by omega
      go_upto_region 8 with fail
      obtain ⟨L, hL⟩ : ∃ L, L = rs[rs.length - 1].name := ⟨_, rfl⟩
      have HLN := Lib.hid hL
      rw [← hL]
      clear hL n0 hra hi0 hi1 hit c0
      go_wp2
      go_loopw [6, 7] (fun q i wr => ∃ (x : Bool) (j : Nat), q = .bool x ∧ i = .int .i64 j ∧ j + 1 ≤ rs.length ∧ Hid (x = true ↔ ∃ u, ∃ h : u < rs.length, u < j ∧ NamesIn L rs[u].p) ∧ LS w w1.heap.size rs (some ⟨b, off, none⟩) c wr) (fun _ i _ => rs.length - (intOf i).toNat)
      case atStart => exact ⟨false, 0, rfl, rfl, by omega, ⟨fun h => (by cases h), fun ⟨u, _, hu, _⟩ => (by omega)⟩, HL⟩
      case round =>
        clear HL
        obtain ⟨x, j, rfl, rfl, hj, HX, HL⟩ := hrel
        have c0 := HL.c0
        by_cases hlt : j + 1 < rs.length
        · have hlt' : (j : Int) + 1 < (rs.length : Int) := by omega
          have hjn : j < rs.length := by omega
          have hji : (j : Int) < (rs.length : Int) := by omega
          cases x
          · obtain ⟨b2, off2, e2, hra⟩ := HL.r.at_ hjn
            injection e2 with e2
            injection e2 with e2 e3
            subst e2 e3
            have hpa := hra.p
            have HLJ := (HLR.out _ (List.getElem_mem hjn)).2
            have HXJ : Hid (∀ y : Bool, (y = true ↔ NamesIn L rs[j].p) → (y = true ↔ ∃ u, ∃ h : u < rs.length, u < j + 1 ∧ NamesIn L rs[u].p)) := fun y hy => by
              rw [hy]
              constructor
              · exact fun h => ⟨j, hjn, by omega, h⟩
              · rintro ⟨u, hu, huj, h⟩
                rcases Nat.lt_succ_iff_lt_or_eq.1 huj with h3 | h3
                · have := HX.out.2 ⟨u, hu, h3, h⟩; cases this
                · subst h3; exact h
            clear hra
            generalize rs[j].p = p at *
            obtain ⟨pk, pt, plo, phi, pkids, pmn, pmx⟩ := p
            obtain ⟨PA, PB, PK, pa, pb, pc, hc', hpv⟩ := hpa.open_
            obtain ⟨d0, d1, d2, d3, d4, d5, d6⟩ := hc'
            have HC := Lib.hid (ln_all L (htL pkids + 1) pk pt plo phi pkids pmn pmx PA PB PK pa pb pc 0 wr (Nat.le_refl _) hpv HLJ)
            clear hpa hpv HLJ
            go_wp2_with fail
            refine HC.out.mono ?_
            rintro e w4 ⟨y, rfl, hy, hb4⟩
            have HL4 := HL.keep hb4
            have HY := Lib.hid (HXJ.out y hy)
            clear HC HL hb4 hy d0 d1 d2 d3 d4 d5 d6 c0 HXJ HX
            go_wp2
            go_roundw
            case rel => exact ⟨y, j + 1, rfl, by go_num, by omega, HY.out, HL4⟩
            case measure => simp [intOf]; omega
          · have HX2 : Hid (true = true ↔ ∃ u, ∃ h : u < rs.length, u < j + 1 ∧ NamesIn L rs[u].p) := ⟨fun _ => by
              obtain ⟨u, hu, huj, h⟩ := HX.out.1 rfl
              exact ⟨u, hu, by omega, h⟩, fun _ => rfl⟩
            clear HX
            go_wp2
            go_roundw
            case rel => exact ⟨true, j + 1, rfl, by go_num, by omega, HX2.out, HL⟩
            case measure => simp [intOf]; omega
        · have hlt' : ¬ (j : Int) + 1 < (rs.length : Int) := by omega
          have hi0 : 0 ≤ (rs.length : Int) - 1 := by omega
          have hi1 : (rs.length : Int) - 1 ≤ (c : Int) := by omega
          have hit : ((rs.length : Int) - 1).toNat = rs.length - 1 := by omega
          have HC : Hid (∀ W : World, Below wr.heap.size wr W → Calls Tryd.prog 7 #[.agg #[.slice (some ⟨b, off, none⟩) (rs.length - 1) c]] W (BoolPost (GramP (rs.take (rs.length - 1))) W)) := fun W hW => by
            have h := implGramOk_any (rs.take (rs.length - 1)) (some ⟨b, off, none⟩) c 0 W ((HL.r.keep hW).take _) (by simp; omega) (fun r hr => HLR.out r (List.mem_of_mem_take hr))
            have e : (rs.take (rs.length - 1)).length = rs.length - 1 := by simp
            rw [e] at h
            exact h
          have HB := HL.b
          have HGL : Hid (GramP (rs.take (rs.length - 1)) ↔ ¬ x = true) := by
            show _ ↔ _
            rw [gram_less HG.out (by omega), HX.out, HLN.out]
            constructor
            · rintro h ⟨u, hu, huj, hn⟩
              exact h u hu (by omega) hn
            · intro h u hu hu1 hn
              exact h ⟨u, hu, by omega, hn⟩
          clear HX HL
          go_wp2_with fail
          refine (HC.out _ (below_box _)).mono ?_
          rintro e w4 ⟨r, rfl, hr, hb4⟩
          have HR4 := Lib.hid (hr.trans HGL.out)
          have HB4 := HB.trans ((below_box (w := wr) (.cells #[.slice (some ⟨b, off, none⟩) (rs.length - 1) c] 25)).mono HB.size |>.trans (hb4.mono (by have := HB.size; rw [World.size_alloc]; omega)))
          clear HC hr hb4 c0 HGL HB
          cases x <;> cases r
          · have := HR4.out.2 (by simp); cases this
          · go_wp2
            go_ret
            exact ⟨rfl, HB4⟩
          · go_wp2
            go_ret
            exact ⟨rfl, HB4⟩
          · have := HR4.out.1 rfl; exact absurd rfl this
  · obtain rfl : ok = false := by
      cases ok
      · rfl
      · exact absurd (HOK.out.1 rfl) hG
    have HG := Lib.hid hG
    clear hG HOK
    go_wp2_with fail
    refine (BoolPost.no (implGramOk_any rs a c 0 _ HL.r (by omega) HLR.out) HG.out).mono ?_
    rintro e w3 ⟨rfl, hb⟩
    replace HL := HL.keep hb
    clear hb c0
    have c0 := HL.c0
    go_wp2_with fail
    refine (BoolPost.no (implGramOk_any rs a c 0 _ HL.r (by omega) HLR.out) HG.out).mono ?_
    rintro e w4 ⟨rfl, hb⟩
    replace HL := HL.keep hb
    clear hb c0
    go_wp2
    go_ret
    exact ⟨rfl, HL.b⟩

end Go.Proofs.YtjfohdalpjoaeaaDoor
