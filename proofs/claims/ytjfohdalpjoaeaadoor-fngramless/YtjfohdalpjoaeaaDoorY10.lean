/- Whether a part names a rule: lfNames. -/
import Derived.Test.YtjfohdalpjoaeaaDoorY9
namespace Go.Proofs.YtjfohdalpjoaeaaDoor
open Go.RowKit
set_option linter.unusedVariables false

inductive NamesIn (nm : ByteArray) : Pt → Prop
  | here (lo hi : List Int) (kids : List Pt) (mn mx : Int) : NamesIn nm (.mk 3 nm lo hi kids mn mx)
  | kid (k : Int) (t : ByteArray) (lo hi : List Int) (kids : List Pt) (mn mx : Int) (p : Pt) (hp : p ∈ kids) (h : NamesIn nm p) : NamesIn nm (.mk k t lo hi kids mn mx)
theorem NamesIn.inv {nm : ByteArray} {k : Int} {t : ByteArray} {lo hi : List Int} {kids : List Pt} {mn mx : Int} (h : NamesIn nm (.mk k t lo hi kids mn mx)) : (k = 3 ∧ t = nm) ∨ ∃ p ∈ kids, NamesIn nm p := by
  cases h with
  | here => exact .inl ⟨rfl, rfl⟩
  | kid _ _ _ _ _ _ _ p hp h => exact .inr ⟨p, hp, h⟩

def LN (nm : ByteArray) (d : Nat) : Prop := ∀ (k : Int) (t : ByteArray) (lo hi : List Int) (kids : List Pt) (mn mx : Int) (A C K : Option Addr) (ca cc kc B0 : Nat) (w : World), htL kids + 1 ≤ d → PtV w B0 lo hi kids A C K → Lim 1048576 (.mk k t lo hi kids mn mx) →
  Calls Tryd.prog 8 #[.agg #[.int .i64 k, .string t, .slice A lo.length ca, .slice C hi.length cc, .slice K kids.length kc, .int .i64 mn, .int .i64 mx], .string nm] w (BoolPost (NamesIn nm (.mk k t lo hi kids mn mx)) w)

set_option maxRecDepth 100000 in
set_option maxHeartbeats 4000000 in
theorem ln_step {nm : ByteArray} {d : Nat} (IH : LN nm d) : LN nm (d + 1) := by
  intro k t lo hi kids mn mx A C K ca cc kc B0 w hh hv hl
  have HIH := Lib.hid IH
  have HV := Lib.hid (hv.k.keep (below_box (.cells #[.int .i64 k, .string t, .slice A lo.length ca, .slice C hi.length cc, .slice K kids.length kc, .int .i64 mn, .int .i64 mx] 31)))
  have HKL : Hid (∀ p ∈ kids, Lim 1048576 p) := hl.kid
  have hkm : kids.length ≤ 1048576 := by cases hl with | mk _ _ _ _ _ _ _ _ _ _ h => exact h
  have HH := Lib.hid hh
  clear IH hv hl hh
  by_cases hit : k = 3 ∧ t = nm
  · obtain ⟨rfl, rfl⟩ := hit
    go_enter Tryd.func8, Tryd.ntmps8
    go_wp2
    go_ret
    exact ⟨true, rfl, iffT (.here lo hi kids mn mx), below_box _⟩
  · have main : ∀ (b : Bool), (b = true → k = 3 ∧ t ≠ nm) → (b = false → k ≠ 3) → Calls Tryd.prog 8 #[.agg #[.int .i64 k, .string t, .slice A lo.length ca, .slice C hi.length cc, .slice K kids.length kc, .int .i64 mn, .int .i64 mx], .string nm] w (BoolPost (NamesIn nm (.mk k t lo hi kids mn mx)) w) := by
      intro b hb1 hb2
      have HHIT := Lib.hid hit
      clear hit
      have hbox : Below w.heap.size w (w.alloc (.cells #[.int .i64 k, .string t, .slice A lo.length ca, .slice C hi.length cc, .slice K kids.length kc, .int .i64 mn, .int .i64 mx] 31)) := below_box _
      have HBX := Lib.hid hbox
      have c4 : (w.alloc (.cells #[.int .i64 k, .string t, .slice A lo.length ca, .slice C hi.length cc, .slice K kids.length kc, .int .i64 mn, .int .i64 mx] 31)).cell? ⟨w.heap.size, 4, none⟩ = some (.slice K kids.length kc) := by simp
      clear hbox
      cases b
      all_goals
        first
          | (have hk3 : (k == 3) = false := by simpa using hb2 rfl
             clear hb1 hb2
             go_enter Tryd.func8, Tryd.ntmps8
             go_upto_region 3 with fail)
          | (have hk3 : (k == 3) = true := by simp [(hb1 rfl).1]
             have htn := str_ne (hb1 rfl).2
             clear hb1 hb2
             go_enter Tryd.func8, Tryd.ntmps8
             go_upto_region 3 with fail)
        generalize w.alloc (.cells #[.int .i64 k, .string t, .slice A lo.length ca, .slice C hi.length cc, .slice K kids.length kc, .int .i64 mn, .int .i64 mx] 31) = W at *
        go_wp2
        go_loopw [5] (fun q wr => ∃ j : Nat, j ≤ kids.length ∧ q = .int .i64 j ∧ Hid (∀ u (h : u < kids.length), u < j → ¬ NamesIn nm kids[u]) ∧ Below W.heap.size W wr) (fun q _ => kids.length - (intOf q).toNat)
        case atStart => exact ⟨0, Nat.zero_le _, rfl, fun u _ hu => by omega, Below.refl _ _⟩
        case round =>
          obtain ⟨j, hj, rfl, HU, hb⟩ := hrel
          replace c4 := cell_keep hb c4
          by_cases hlt : j < kids.length
          · have hlt' : (j : Int) < (kids.length : Int) := by omega
            obtain ⟨b, off, rfl, hp⟩ := (HV.out.keep hb).at_ hlt
            have hmem := List.getElem_mem hlt
            have hlim := HKL.out _ hmem
            have hht := ht_mem hmem
            have HME := Lib.hid hmem
            have HUJ : Hid (¬ NamesIn nm kids[j] → ∀ u (h : u < kids.length), u < j + 1 → ¬ NamesIn nm kids[u]) := fun h1 u hu huj => by
              rcases Nat.lt_succ_iff_lt_or_eq.1 huj with h3 | h3
              · exact HU.out u hu h3
              · subst h3; exact h1
            clear hmem
            generalize kids[j] = p at *
            obtain ⟨pk, pt, plo, phi, pkids, pmn, pmx⟩ := p
            rw [ht_mk] at hht
            obtain ⟨PA, PB, PK, pa, pb, pc, hc, hpv⟩ := hp.open_
            obtain ⟨c0', c1', c2', c3', c4', c5', c6'⟩ := hc
            have HC := Lib.hid (HIH.out pk pt plo phi pkids pmn pmx PA PB PK pa pb pc B0 wr (by have := HH.out; omega) hpv hlim)
            clear hp hpv hlim hht
            go_wp2_with fail
            refine HC.out.mono ?_
            rintro e w2 ⟨r, rfl, hr, hb2⟩
            have hb' : Below W.heap.size W w2 := hb.trans (hb2.mono hb.size)
            have HRR := Lib.hid hr
            clear hb hb2 HC c0' c1' c2' c3' c4' c5' c6' hr
            cases r
            · have HN : Hid (¬ NamesIn nm (.mk pk pt plo phi pkids pmn pmx)) := fun h => by have := HRR.out.2 h; cases this
              have HU2 := Lib.hid (HUJ.out HN.out)
              clear HRR
              go_wp2
              go_roundw
              case rel => exact ⟨j + 1, by omega, by go_num, HU2, hb'⟩
              case measure => simp [intOf]; omega
            · have HY : Hid (NamesIn nm (.mk pk pt plo phi pkids pmn pmx)) := HRR.out.1 rfl
              have HBZ := HBX.out.trans (hb'.mono HBX.out.size)
              clear HRR
              go_wp2
              go_ret
              exact ⟨true, rfl, iffT (.kid k t lo hi kids mn mx _ HME.out HY.out), HBZ⟩
          · have hlt' : ¬ (j : Int) < (kids.length : Int) := by omega
            have HBZ := HBX.out.trans (hb.mono HBX.out.size)
            go_wp2
            go_ret
            refine ⟨false, rfl, iffF fun h => ?_, HBZ⟩
            rcases h.inv with h | ⟨p, hp, h⟩
            · exact HHIT.out h
            · obtain ⟨u, hu, rfl⟩ := List.getElem_of_mem hp
              exact HU.out u hu (by omega) h
    by_cases hk : k = 3
    · exact main true (fun _ => ⟨hk, fun e => hit ⟨hk, e⟩⟩) (fun h => by cases h)
    · exact main false (fun h => by cases h) (fun _ => hk)

theorem ln_all (nm : ByteArray) : ∀ d, LN nm d
  | 0 => by intro k t lo hi kids mn mx A C K ca cc kc B0 w hh; omega
  | d + 1 => ln_step (ln_all nm d)

end Go.Proofs.YtjfohdalpjoaeaaDoor
