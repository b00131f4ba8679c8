/- impl.kidText, impl.seqText, impl.altText (written by tools/gen_w10.py). -/
import Derived.Test.YtadfjdgjlgpncaaGreatDoorW9
import Derived.Test.YtadfjdgjlgpncaaGreatDoorW7
namespace Go.Proofs.YtadfjdgjlgpncaaGreatDoor
open Go.RowKit
set_option linter.unusedVariables false

theorem info9 : (Tryz.prog.info? 9).map (fun i => (i.zero, i.size, i.bytes)) = some (some (.string ByteArray.empty), 1, 16) := by kernel_rfl
theorem lib_join (L : List (List UInt8)) (sep : List UInt8) : Lib.join L sep = joinT sep L := by
  cases L with
  | nil => rfl
  | cons x r => rw [Lib.join_cons]; rfl
/-- Texts that were gathered, joined. -/
theorem join_own {w : World} {base : Nat} {v : Value} {ts : List ByteArray} {sep : ByteArray} (h : w.ownsRow base 9 1 v ts.length (strs ts)) (hm : ts.length ≤ 160) (hl : (joinT (bl sep) (ts.map bl)).length ≤ 1000000) :
    (∃ VA vc, v = .slice VA ts.length vc) ∧ Calls Tryz.prog 100 #[v, .string sep] w fun e w' => e = .returned (.string ⟨(joinT (bl sep) (ts.map bl)).toArray⟩) ∧ Below w.heap.size w w' := by
  rcases h.2 with ⟨rfl, h0⟩ | ⟨g, cap, cur, rfl, hg, hgg, hn, hcm, hcs, htk⟩
  · obtain rfl : ts = [] := List.eq_nil_of_length_eq_zero h0
    refine ⟨⟨none, 0, rfl⟩, ?_⟩
    have := Any.strings_Join_none joinLays joinExtra none 0 sep w
    exact this.mono fun e w' ⟨h1, h2⟩ => ⟨h1, h2 ▸ Below.refl _ _⟩
  · refine ⟨⟨_, _, rfl⟩, ?_⟩
    have := Any.strings_Join joinLays joinExtra g 0 cap ts sep w (fun j x hx => by
      rw [cell_of_row w g (0 + j) _ 9 (0, 0) hgg]
      have h1 : (strs ts)[j]? = some (.string x) := by unfold strs; rw [List.getElem?_map, hx]; rfl
      rw [← htk] at h1
      rw [Nat.zero_add]
      rw [List.getElem?_take] at h1
      split at h1
      · simpa using h1
      · cases h1) (Array.getElem?_eq_some_iff.1 hgg).1 (by omega) hn (by
        have : Lib.join (ts.map (·.data.toList)) sep.data.toList = joinT (bl sep) (ts.map bl) := lib_join _ _
        rw [this]; omega)
    have e : Lib.join (ts.map (·.data.toList)) sep.data.toList = joinT (bl sep) (ts.map bl) := lib_join _ _
    rw [e] at this
    exact this

/-- impl.partText, of parts that are at most so high. -/
def PaT (n : Nat) : Prop := ∀ (rs : List Ru) (k : Int) (t : ByteArray) (lo hi : List Int) (kids : List Pt) (mn mx : Int) (A B K : Option Addr) (ca cb kc B0 : Nat) (w : World), NamesP rs → htL kids + 1 ≤ n → PtV w B0 lo hi kids A B K → OkP rs (.mk k t lo hi kids mn mx) → nodesL kids + 1 ≤ 160 →
  Calls Tryz.prog 36 #[.agg #[.int .i64 k, .string t, .slice A lo.length ca, .slice B hi.length cb, .slice K kids.length kc, .int .i64 mn, .int .i64 mx]] w (TextIs (txt (.mk k t lo hi kids mn mx)) w)

set_option maxRecDepth 100000 in
set_option maxHeartbeats 4000000 in
theorem kidText_any {n : Nat} (IH : PaT n) (en : Bool) (rs : List Ru) (k : Int) (t : ByteArray) (lo hi : List Int) (kids : List Pt) (mn mx : Int) (A B K : Option Addr) (ca cb kc B0 : Nat) (w : World) (hn : NamesP rs) (hh : htL kids + 1 ≤ n) (hv : PtV w B0 lo hi kids A B K) (ho : OkP rs (.mk k t lo hi kids mn mx)) (hnd : nodesL kids + 1 ≤ 160) :
    Calls Tryz.prog 99 #[.agg #[.int .i64 k, .string t, .slice A lo.length ca, .slice B hi.length cb, .slice K kids.length kc, .int .i64 mn, .int .i64 mx], .bool en] w (TextIs (encl en (txt (.mk k t lo hi kids mn mx))) w) := by
  have hlen := txt_len hn ((Pt.mk k t lo hi kids mn mx).ht) (.mk k t lo hi kids mn mx) (Nat.le_refl _) ho
  rw [nodes_mk] at hlen
  have hbx : Below w.heap.size w (w.alloc (.cells #[.int .i64 k, .string t, .slice A lo.length ca, .slice B hi.length cb, .slice K kids.length kc, .int .i64 mn, .int .i64 mx] 38)) := below_box _
  have HC := Lib.hid (IH rs k t lo hi kids mn mx A B K ca cb kc B0 (w.alloc (.cells #[.int .i64 k, .string t, .slice A lo.length ca, .slice B hi.length cb, .slice K kids.length kc, .int .i64 mn, .int .i64 mx] 38)) hn hh (hv.keep hbx) ho hnd)
  have HBX := Lib.hid hbx
  generalize txt (.mk k t lo hi kids mn mx) = T at *
  clear hv ho hbx IH
  cases en
  · go_enter Tryz.func99, Tryz.ntmps99
    go_wp2_with fail
    refine HC.out.mono ?_
    rintro e w2 ⟨s, rfl, hs, hb2⟩
    have HS := Lib.hid hs
    have hb := Lib.hid (HBX.out.trans (hb2.mono HBX.out.size))
    clear hs hb2
    go_wp2
    go_ret
    exact ⟨_, rfl, by rw [HS.out]; rfl, hb.out⟩
  · go_enter Tryz.func99, Tryz.ntmps99
    go_wp2_with fail
    refine HC.out.mono ?_
    rintro e w2 ⟨s, rfl, hs, hb2⟩
    have hsz : s.size ≤ 160000 := by rw [bl_size, hs]; omega
    have HS := Lib.hid hs
    have hb := Lib.hid (HBX.out.trans (hb2.mono HBX.out.size))
    clear hs hb2
    go_wp2
    go_ret
    exact ⟨_, rfl, by rw [bl_append, bl_append, HS.out]; simp [encl, paren, bl], hb.out⟩

set_option maxRecDepth 100000 in
set_option maxHeartbeats 4000000 in
theorem seqText_any {n : Nat} (IH : PaT n) (rs : List Ru) (kids : List Pt) (K : Option Addr) (kc B0 : Nat) (w : World) (hn : NamesP rs) (hh : htL kids ≤ n) (hk : Pts w B0 K kids) (hok : ∀ p ∈ kids, OkP rs p) (hnd : nodesL kids + 1 ≤ 160) (hjl : (joinT [32] (kids.map sq)).length ≤ 160000) (hne : kids.length ≠ 0) :
    Calls Tryz.prog 69 #[.slice K kids.length kc] w (TextIs (joinT [32] (kids.map sq)) w) := by
  obtain ⟨i0, hi0, hz0, hz1, hz2⟩ := info_parts info9
  have HI0 := Lib.hid (And.intro hi0 (And.intro hz0 (And.intro hz1 hz2)))
  clear hi0 hz0 hz1 hz2
  have HK := Lib.hid hk
  have HOK := Lib.hid hok
  have HN := Lib.hid hn
  have HI := Lib.hid IH
  have HJL := Lib.hid hjl
  have hm160 : kids.length ≤ 160 := by have := len_le_nodesL kids; omega
  have hz0 : ((kids.length : Int) == 0) = false := by rw [beq_eq_false_iff_ne]; omega
  clear hk hok hn IH hjl
  go_enter Tryz.func69, Tryz.ntmps69
  go_wp2
  clear hz0
  go_loopw [3, 11] (fun v i wr => ∃ (j : Nat) (ts : List ByteArray), j ≤ kids.length ∧ i = .int .i64 j ∧ Hid (ts.length = j) ∧ Hid (ts.map bl = (kids.map sq).take j) ∧ Hid (wr.ownsRow w.heap.size 9 1 v ts.length (strs ts)) ∧ Below w.heap.size w wr) (fun _ i _ => kids.length - (intOf i).toNat)
  case atStart => exact ⟨0, [], Nat.zero_le _, rfl, rfl, by show _ = _; simp, ⟨by simp [strs], .inl ⟨rfl, rfl⟩⟩, Below.refl _ _⟩
  case round =>
    obtain ⟨j, ts, hj, rfl, HTL, HTS, HOW, hb⟩ := hrel
    have htl : ts.length ≤ 160 := by have := HTL.out; omega
    by_cases hlt : j < kids.length
    · have hlt' : (j : Int) < (kids.length : Int) := by omega
      obtain ⟨b, off, rfl, hp⟩ := (HK.out.keep hb).at_ hlt
      have hmem := List.getElem_mem hlt
      have hok := HOK.out _ hmem
      have hht := ht_mem hmem
      have hnn := nodesL_mem hmem
      have HNX : Hid ((kids.map sq).take (j + 1) = (kids.map sq).take j ++ [sq kids[j]]) := by show _ = _; rw [List.take_succ_eq_append_getElem (by simpa using hlt), List.getElem_map]
      clear hmem
      generalize kids[j] = p at *
      obtain ⟨pk, pt, plo, phi, pkids, pmn, pmx⟩ := p
      rw [ht_mk] at hht
      rw [nodes_mk] at hnn
      obtain ⟨PA, PB, PK, pa, pb, pc, hc, hv⟩ := hp.open_
      obtain ⟨c0, c1, c2, c3, c4, c5, c6⟩ := hc
      have hbx : Below wr.heap.size wr (wr.alloc (.cells #[.int .i64 pk, .string pt, .slice PA plo.length pa, .slice PB phi.length pb, .slice PK pkids.length pc, .int .i64 pmn, .int .i64 pmx] 38)) := below_box _
      have HC := Lib.hid (kidText_any HI.out (pk == 5) rs pk pt plo phi pkids pmn pmx PA PB PK pa pb pc B0 (wr.alloc (.cells #[.int .i64 pk, .string pt, .slice PA plo.length pa, .slice PB phi.length pb, .slice PK pkids.length pc, .int .i64 pmn, .int .i64 pmx] 38)) HN.out (by omega) (hv.keep hbx) hok (by omega))
      have HBX := Lib.hid hbx
      clear hp hv hok hbx
      go_wp2_with fail
      generalize wr.alloc (.cells #[.int .i64 pk, .string pt, .slice PA plo.length pa, .slice PB phi.length pb, .slice PK pkids.length pc, .int .i64 pmn, .int .i64 pmx] 38) = W1 at *
      refine HC.out.mono ?_
      rintro e w2 ⟨s, rfl, hs, hb2⟩
      have HS := Lib.hid hs
      have hbw : Below wr.heap.size wr w2 := HBX.out.trans (hb2.mono HBX.out.size)
      have hb' : Below w.heap.size w w2 := hb.trans (hbw.mono hb.size)
      have hown := own_keep HOW.out hbw
      have hs0 : w.heap.size ≤ w2.heap.size := hb'.size
      clear hs hb hb2 hbw HC HBX c0 c1 c2 c3 c4 c5 c6 HOW
      go_wp2_with (at_builtin; refine wpList_append_own _ rfl _ _ 34 rfl w.heap.size 9 i0 (.string ByteArray.empty) 1 16 Tryz.underlying34 HI0.out.1 HI0.out.2.1 HI0.out.2.2.1 HI0.out.2.2.2 rfl (by decide) _ _ _ rfl (hown.alloc _) ⟨w2.heap.size, 0, none⟩ 1 1 [.string s] rfl rfl (cell_one_new _ _ _) ?c2 ?c3 ?c4 ?c5 ?_)
      case c2 => intro u hu; simp at hu; subst hu; rfl
      case c3 => unfold maxLen; omega
      case c4 => omega
      case c5 => simp; omega
      · intro v' w3 hown' hgrow _
        have hb4 := (hb'.alloc hs0 _).grown hgrow (by simp; omega) (fun k hk => (hown.lt k hk).1)
        have HOW3 : Hid (w3.ownsRow w.heap.size 9 1 v' (ts ++ [s]).length (strs (ts ++ [s]))) := by
          have e1 : strs (ts ++ [s]) = strs ts ++ [.string s] := by simp [strs]
          have e2 : (ts ++ [s]).length = ts.length + 1 := by simp
          show w3.ownsRow w.heap.size 9 1 v' (ts ++ [s]).length (strs (ts ++ [s]))
          rw [e1, e2]
          exact hown'
        clear hown hown' hgrow hb'
        go_wp2
        go_roundw
        case rel =>
          refine ⟨j + 1, ts ++ [s], by omega, by go_num, by show _ = _; simp [HTL.out], ?_, HOW3, hb4⟩
          show _ = _
          rw [List.map_append, HTS.out, HNX.out, List.map_cons, List.map_nil, HS.out]
          rfl
        case measure => simp [intOf]; omega
    · have hlt' : ¬ (j : Int) < (kids.length : Int) := by omega
      obtain rfl : j = kids.length := by omega
      have HTF : Hid (ts.map bl = kids.map sq) := by show _ = _; rw [HTS.out, List.take_of_length_le (by simp)]
      obtain ⟨⟨VA, vc, rfl⟩, hjc⟩ := (join_own HOW.out (sep := ⟨#[32]⟩) (by omega) (by rw [HTF.out]; have := HJL.out; show (joinT [32] _).length ≤ _; omega))
      have HJC := Lib.hid hjc
      clear HTS HOW hjc
      go_wp2_with fail
      refine HJC.out.mono ?_
      rintro e w3 ⟨rfl, hb3⟩
      have hb4 := Lib.hid (hb.trans (hb3.mono hb.size))
      clear hb hb3 HJC
      go_wp2
      go_ret
      exact ⟨_, rfl, by rw [bl_mk, HTF.out]; rfl, hb4.out⟩


set_option maxRecDepth 100000 in
set_option maxHeartbeats 4000000 in
theorem altText_any {n : Nat} (IH : PaT n) (rs : List Ru) (kids : List Pt) (K : Option Addr) (kc B0 : Nat) (w : World) (hn : NamesP rs) (hh : htL kids ≤ n) (hk : Pts w B0 K kids) (hok : ∀ p ∈ kids, OkP rs p) (hnd : nodesL kids + 1 ≤ 160) (hjl : (joinT [32, 124, 32] (kids.map txt)).length ≤ 160000) (hne : kids.length ≠ 0) :
    Calls Tryz.prog 70 #[.slice K kids.length kc] w (TextIs (joinT [32, 124, 32] (kids.map txt)) w) := by
  obtain ⟨i0, hi0, hz0, hz1, hz2⟩ := info_parts info9
  have HI0 := Lib.hid (And.intro hi0 (And.intro hz0 (And.intro hz1 hz2)))
  clear hi0 hz0 hz1 hz2
  have HK := Lib.hid hk
  have HOK := Lib.hid hok
  have HN := Lib.hid hn
  have HI := Lib.hid IH
  have HJL := Lib.hid hjl
  have hm160 : kids.length ≤ 160 := by have := len_le_nodesL kids; omega
  have hz0 : ((kids.length : Int) == 0) = false := by rw [beq_eq_false_iff_ne]; omega
  clear hk hok hn IH hjl
  go_enter Tryz.func70, Tryz.ntmps70
  go_wp2
  clear hz0
  go_loopw [3, 8] (fun v i wr => ∃ (j : Nat) (ts : List ByteArray), j ≤ kids.length ∧ i = .int .i64 j ∧ Hid (ts.length = j) ∧ Hid (ts.map bl = (kids.map txt).take j) ∧ Hid (wr.ownsRow w.heap.size 9 1 v ts.length (strs ts)) ∧ Below w.heap.size w wr) (fun _ i _ => kids.length - (intOf i).toNat)
  case atStart => exact ⟨0, [], Nat.zero_le _, rfl, rfl, by show _ = _; simp, ⟨by simp [strs], .inl ⟨rfl, rfl⟩⟩, Below.refl _ _⟩
  case round =>
    obtain ⟨j, ts, hj, rfl, HTL, HTS, HOW, hb⟩ := hrel
    have htl : ts.length ≤ 160 := by have := HTL.out; omega
    by_cases hlt : j < kids.length
    · have hlt' : (j : Int) < (kids.length : Int) := by omega
      obtain ⟨b, off, rfl, hp⟩ := (HK.out.keep hb).at_ hlt
      have hmem := List.getElem_mem hlt
      have hok := HOK.out _ hmem
      have hht := ht_mem hmem
      have hnn := nodesL_mem hmem
      have HNX : Hid ((kids.map txt).take (j + 1) = (kids.map txt).take j ++ [txt kids[j]]) := by show _ = _; rw [List.take_succ_eq_append_getElem (by simpa using hlt), List.getElem_map]
      clear hmem
      generalize kids[j] = p at *
      obtain ⟨pk, pt, plo, phi, pkids, pmn, pmx⟩ := p
      rw [ht_mk] at hht
      rw [nodes_mk] at hnn
      obtain ⟨PA, PB, PK, pa, pb, pc, hc, hv⟩ := hp.open_
      obtain ⟨c0, c1, c2, c3, c4, c5, c6⟩ := hc
      have hbx : Below wr.heap.size wr (wr.alloc (.cells #[.int .i64 pk, .string pt, .slice PA plo.length pa, .slice PB phi.length pb, .slice PK pkids.length pc, .int .i64 pmn, .int .i64 pmx] 38)) := below_box _
      have HC := Lib.hid (HI.out rs pk pt plo phi pkids pmn pmx PA PB PK pa pb pc B0 (wr.alloc (.cells #[.int .i64 pk, .string pt, .slice PA plo.length pa, .slice PB phi.length pb, .slice PK pkids.length pc, .int .i64 pmn, .int .i64 pmx] 38)) HN.out (by omega) (hv.keep hbx) hok (by omega))
      have HBX := Lib.hid hbx
      clear hp hv hok hbx
      go_wp2_with fail
      generalize wr.alloc (.cells #[.int .i64 pk, .string pt, .slice PA plo.length pa, .slice PB phi.length pb, .slice PK pkids.length pc, .int .i64 pmn, .int .i64 pmx] 38) = W1 at *
      refine HC.out.mono ?_
      rintro e w2 ⟨s, rfl, hs, hb2⟩
      have HS := Lib.hid hs
      have hbw : Below wr.heap.size wr w2 := HBX.out.trans (hb2.mono HBX.out.size)
      have hb' : Below w.heap.size w w2 := hb.trans (hbw.mono hb.size)
      have hown := own_keep HOW.out hbw
      have hs0 : w.heap.size ≤ w2.heap.size := hb'.size
      clear hs hb hb2 hbw HC HBX c0 c1 c2 c3 c4 c5 c6 HOW
      go_wp2_with (at_builtin; refine wpList_append_own _ rfl _ _ 34 rfl w.heap.size 9 i0 (.string ByteArray.empty) 1 16 Tryz.underlying34 HI0.out.1 HI0.out.2.1 HI0.out.2.2.1 HI0.out.2.2.2 rfl (by decide) _ _ _ rfl (hown.alloc _) ⟨w2.heap.size, 0, none⟩ 1 1 [.string s] rfl rfl (cell_one_new _ _ _) ?c2 ?c3 ?c4 ?c5 ?_)
      case c2 => intro u hu; simp at hu; subst hu; rfl
      case c3 => unfold maxLen; omega
      case c4 => omega
      case c5 => simp; omega
      · intro v' w3 hown' hgrow _
        have hb4 := (hb'.alloc hs0 _).grown hgrow (by simp; omega) (fun k hk => (hown.lt k hk).1)
        have HOW3 : Hid (w3.ownsRow w.heap.size 9 1 v' (ts ++ [s]).length (strs (ts ++ [s]))) := by
          have e1 : strs (ts ++ [s]) = strs ts ++ [.string s] := by simp [strs]
          have e2 : (ts ++ [s]).length = ts.length + 1 := by simp
          show w3.ownsRow w.heap.size 9 1 v' (ts ++ [s]).length (strs (ts ++ [s]))
          rw [e1, e2]
          exact hown'
        clear hown hown' hgrow hb'
        go_wp2
        go_roundw
        case rel =>
          refine ⟨j + 1, ts ++ [s], by omega, by go_num, by show _ = _; simp [HTL.out], ?_, HOW3, hb4⟩
          show _ = _
          rw [List.map_append, HTS.out, HNX.out, List.map_cons, List.map_nil, HS.out]
          skip
        case measure => simp [intOf]; omega
    · have hlt' : ¬ (j : Int) < (kids.length : Int) := by omega
      obtain rfl : j = kids.length := by omega
      have HTF : Hid (ts.map bl = kids.map txt) := by show _ = _; rw [HTS.out, List.take_of_length_le (by simp)]
      obtain ⟨⟨VA, vc, rfl⟩, hjc⟩ := (join_own HOW.out (sep := ⟨#[32, 124, 32]⟩) (by omega) (by rw [HTF.out]; have := HJL.out; show (joinT [32, 124, 32] _).length ≤ _; omega))
      have HJC := Lib.hid hjc
      clear HTS HOW hjc
      go_wp2_with fail
      refine HJC.out.mono ?_
      rintro e w3 ⟨rfl, hb3⟩
      have hb4 := Lib.hid (hb.trans (hb3.mono hb.size))
      clear hb hb3 HJC
      go_wp2
      go_ret
      exact ⟨_, rfl, by rw [bl_mk, HTF.out]; rfl, hb4.out⟩


end Go.Proofs.YtadfjdgjlgpncaaGreatDoor
