/- Parts copied, all of them. -/
import Derived.Test.YtjfohdalpjoaeaaDoorP3
namespace Go.Proofs.YtjfohdalpjoaeaaDoor
open Go.RowKit
set_option linter.unusedVariables false

theorem own_of_row {w : World} {base : Nat} {e : TypeId} {g n size : Nat} {xs : List Value} (h : w.ownsRow base e size (.slice (some ⟨g, 0, none⟩) n n) n xs) : Own w g e xs := by
  rcases h.2 with ⟨h1, _⟩ | ⟨g', cap, cur, h1, _, h2, _, _, h3, h4⟩
  · cases h1
  · injection h1 with e1 e2 e3
    injection e1 with e1
    injection e1 with e4
    subst e3 e4
    rw [List.take_of_length_le (by simp [h3])] at h4
    unfold Own
    rw [h2, ← h4]

set_option maxRecDepth 100000 in
set_option maxHeartbeats 1000000 in
theorem toKids {n : Nat} (IH : ToP n) (kids : List Pt) (K : Option Addr) (kc B0 : Nat) (w : World) (hh : htL kids ≤ n) (hk : Pts w B0 K kids) (hm : kids.length ≤ 1048576) (hl : ∀ p ∈ kids, Lim 1048576 p) :
    Calls Tryd.prog 68 #[.slice K kids.length kc] w (NewPts kids w) := by
  obtain ⟨i0, hi0, hz0, hz1, hz2⟩ := info_parts info31
  have HI0 := Lib.hid (And.intro hi0 (And.intro hz0 (And.intro hz1 hz2)))
  clear hi0 hz0 hz1 hz2
  have HI := Lib.hid IH
  have HK := Lib.hid hk
  have HL := Lib.hid hl
  have HH := Lib.hid hh
  clear IH hk hl hh
  go_enter Tryd.func68, Tryd.ntmps68
  go_wp2_with (refine wpList_make_full _ rfl _ _ 29 rfl w.heap.size 31 i0 (.agg #[.int .i64 0, .string ByteArray.empty, .slice none 0 0, .slice none 0 0, .slice none 0 0, .int .i64 0, .int .i64 0]) 7 Tryd.underlying29 HI0.out.1 HI0.out.2.1 HI0.out.2.2.1 .i64 .i64 kids.length kids.length kids.length rfl rfl rfl rfl (by rw [HI0.out.2.2.2]; omega) (by unfold maxLen; omega) (by omega) ?_)
  intro w1 hown1 hgr1
  have HT0 : Hid (TK w w.heap.size kids 0 _ w1) := ⟨own_of_row hown1, by simp [size_madeCells], (Below.refl _ _).grown hgr1 (Nat.le_refl _) (fun k hk => by cases hk), Nat.le_refl _, fun i _ hi => by omega⟩
  clear hown1 hgr1
  go_wp2
  go_loopw [4] (fun i wr => ∃ j : Nat, j ≤ kids.length ∧ i = .int .i64 j ∧ ∃ cur, Hid (TK w w.heap.size kids j cur wr)) (fun i _ => kids.length - (intOf i).toNat)
  case atStart => exact ⟨0, Nat.zero_le _, rfl, _, HT0⟩
  case round =>
    clear HT0
    obtain ⟨j, hj, rfl, cur, HT⟩ := hrel
    by_cases hlt : j < kids.length
    · have hlt' : (j : Int) < (kids.length : Int) := by omega
      obtain ⟨b, off, rfl, hp⟩ := (HK.out.keep HT.out.b).at_ hlt
      have hmem := List.getElem_mem hlt
      have hlim := HL.out _ hmem
      have hht := ht_mem hmem
      obtain ⟨pk, pt, plo, phi, pkids, pmn, pmx, hpe⟩ : ∃ k t lo hi ks mn mx, kids[j] = .mk k t lo hi ks mn mx := by cases h : kids[j]; exact ⟨_, _, _, _, _, _, _, rfl⟩
      rw [hpe] at hp hlim hht
      rw [ht_mk] at hht
      obtain ⟨PA, PB, PK, pa, pb, pc, hc, hv⟩ := hp.open_
      obtain ⟨c0, c1, c2, c3, c4, c5, c6⟩ := hc
      have HC := Lib.hid (HI.out pk pt plo phi pkids pmn pmx PA PB PK pa pb pc B0 wr (by have := HH.out; omega) hv hlim)
      have HPE := Lib.hid hpe
      have hgw : w.heap.size < wr.heap.size := HT.out.o.lt
      clear hp hv hlim hht hmem hpe
      go_wp2_with fail
      refine HC.out.mono ?_
      rintro e w2 ⟨A2, B2, K2, rfl, hv2, hb2⟩
      have HT2 := HT.out.keep hb2
      have HP := Lib.hid (HT2.put hlt HPE.out (ca := plo.length) (cb := phi.length) (kc := pkids.length) (hv2.low (by omega)))
      have hl := HT2.l
      have hg2 := HT2.o.lt
      obtain ⟨v0, hv0⟩ : ∃ v, w2.cell? ⟨w.heap.size, j * 7, none⟩ = some v := ⟨_, HT2.o.cell_ (by omega)⟩
      obtain ⟨v1, hv1⟩ : ∃ v, w2.cell? ⟨w.heap.size, j * 7 + 1, none⟩ = some v := ⟨_, HT2.o.cell_ (by omega)⟩
      obtain ⟨v2, hv2'⟩ : ∃ v, w2.cell? ⟨w.heap.size, j * 7 + 2, none⟩ = some v := ⟨_, HT2.o.cell_ (by omega)⟩
      obtain ⟨v3, hv3⟩ : ∃ v, w2.cell? ⟨w.heap.size, j * 7 + 3, none⟩ = some v := ⟨_, HT2.o.cell_ (by omega)⟩
      obtain ⟨v4, hv4⟩ : ∃ v, w2.cell? ⟨w.heap.size, j * 7 + 4, none⟩ = some v := ⟨_, HT2.o.cell_ (by omega)⟩
      obtain ⟨v5, hv5⟩ : ∃ v, w2.cell? ⟨w.heap.size, j * 7 + 5, none⟩ = some v := ⟨_, HT2.o.cell_ (by omega)⟩
      obtain ⟨v6, hv6⟩ : ∃ v, w2.cell? ⟨w.heap.size, j * 7 + 6, none⟩ = some v := ⟨_, HT2.o.cell_ (by omega)⟩
      have f0 := HT2.o.frozen (j * 7)
      have f1 := HT2.o.frozen (j * 7 + 1)
      have f2 := HT2.o.frozen (j * 7 + 2)
      have f3 := HT2.o.frozen (j * 7 + 3)
      have f4 := HT2.o.frozen (j * 7 + 4)
      have f5 := HT2.o.frozen (j * 7 + 5)
      have f6 := HT2.o.frozen (j * 7 + 6)
      clear HT HT2 hb2 HC c0 c1 c2 c3 c4 c5 c6 hv2
      go_wp2
      go_roundw
      case rel => exact ⟨j + 1, by omega, by go_num, _, HP⟩
      case measure => simp [intOf]; omega
    · have hlt' : ¬ (j : Int) < (kids.length : Int) := by omega
      go_wp2
      go_ret
      exact ⟨_, rfl, HT.out.done (by omega), HT.out.b⟩

theorem to_all : ∀ n, ToP n
  | 0 => by intro k t lo hi kids mn mx A B K ca cb kc B0 w hh; omega
  | n + 1 => toStep (fun kids K kc B0 w h1 h2 h3 h4 => toKids (to_all n) kids K kc B0 w h1 h2 h3 h4)

end Go.Proofs.YtjfohdalpjoaeaaDoor
