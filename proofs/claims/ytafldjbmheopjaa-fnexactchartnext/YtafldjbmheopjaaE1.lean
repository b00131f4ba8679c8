/- Sets of items in memory, and how large they are. An item is three numbers, as a symbol is: Sy serves for both. -/
import Derived.Test.YtafldjbmheopjaaC3
namespace Go.Proofs.Ytafldjbmheopjaa
open Go.RowKit
set_option linter.unusedVariables false

/-- Sets of items, one behind the other: a cell each. -/
def Sts (w : World) (a : Option Addr) (ts : List (List Sy)) : Prop :=
  ts = [] ∨ ∃ b off, a = some ⟨b, off, none⟩ ∧ ∀ i (h : i < ts.length), ∃ K kc, w.cell? ⟨b, off + i, none⟩ = some (.slice K ts[i].length kc) ∧ Syms w K ts[i]

theorem Sts.keep {w w' : World} {a : Option Addr} {ts : List (List Sy)} (h : Sts w a ts) (hb : Below w.heap.size w w') : Sts w' a ts := by
  rcases h with h | ⟨b, off, e, h⟩
  · exact .inl h
  · refine .inr ⟨b, off, e, fun i hi => ?_⟩
    obtain ⟨K, kc, hp, hs⟩ := h i hi
    exact ⟨K, kc, cell_keep hb hp, hs.keep hb⟩
theorem Sts.at_ {w : World} {a : Option Addr} {ts : List (List Sy)} (h : Sts w a ts) {i : Nat} (hi : i < ts.length) : ∃ b off, a = some ⟨b, off, none⟩ ∧ ∃ K kc, w.cell? ⟨b, off + i, none⟩ = some (.slice K ts[i].length kc) ∧ Syms w K ts[i] := by
  rcases h with h | ⟨b, off, e, h⟩
  · rw [h] at hi; simp at hi
  · exact ⟨b, off, e, h i hi⟩
theorem Sts.alloc {w : World} {a : Option Addr} {ts : List (List Sy)} (h : Sts w a ts) (o : Obj) : Sts (w.alloc o) a ts := h.keep (below_box _)
theorem Sts.drew {w : World} {a : Option Addr} {ts : List (List Sy)} (h : Sts w a ts) : Sts w.drew a ts := h.keep (Below.refl _ _).drew
theorem Sts.drewN {w : World} {a : Option Addr} {ts : List (List Sy)} (h : Sts w a ts) (n : Nat) : Sts (w.drewN n) a ts := h.keep (below_drewN (Below.refl _ _) n)

/-- Small enough to be copied. -/
def SmallT (ts : List (List Sy)) : Prop := ∀ t ∈ ts, t.length ≤ 1048576

set_option maxHeartbeats 400000 in
theorem szIt_any (a : Option Addr) (c n : Nat) (left : Int) (w : World) (hm : n ≤ maxLen) (hl0 : 0 ≤ left) (hl1 : left ≤ 1048576) :
    Calls Try.prog 36 #[.slice a n c, .int .i64 left] w fun e w' => ∃ r : Int, e = .returned (.int .i64 r) ∧ r ≤ 1048576 ∧ (r < 0 ∨ (0 ≤ r ∧ n ≤ 1048576)) ∧ w = w' := by
  unfold maxLen at hm
  by_cases h1 : left - (n : Int) < 0
  · go_enter Try.func36, Try.ntmps36
    go_wp2
    go_ret
    exact ⟨-1, rfl, by omega, .inl (by omega), rfl⟩
  · go_enter Try.func36, Try.ntmps36
    go_wp2
    go_ret
    exact ⟨_, rfl, by omega, .inr ⟨by omega, by omega⟩, rfl⟩

set_option maxRecDepth 100000 in
set_option maxHeartbeats 1000000 in
theorem szSts_any (a : Option Addr) (c : Nat) (ts : List (List Sy)) (left : Int) (w : World) (hr : Sts w a ts) (hm : ts.length ≤ maxLen) (hs : ∀ t ∈ ts, t.length ≤ maxLen) (hl0 : 0 ≤ left) (hl1 : left ≤ 1048576) :
    Calls Try.prog 21 #[.slice a ts.length c, .int .i64 left] w fun e w' => ∃ r : Int, e = .returned (.int .i64 r) ∧ (r < 0 ∨ (0 ≤ r ∧ ts.length ≤ 1048576 ∧ SmallT ts)) ∧ Below w.heap.size w w' := by
  have HR := Lib.hid hr
  have HS := Lib.hid hs
  clear hr hs
  unfold maxLen at hm
  by_cases h1 : left - (ts.length : Int) < 0
  · go_enter Try.func21, Try.ntmps21
    go_wp2
    go_ret
    exact ⟨-1, rfl, .inl (by omega), Below.refl _ _⟩
  · go_enter Try.func21, Try.ntmps21
    go_wp2
    go_loopw [1, 5] (fun l i wr => ∃ k : Nat, k ≤ ts.length ∧ i = .int .i64 k ∧ (∃ r : Int, l = .int .i64 r ∧ 0 ≤ r ∧ r ≤ 1048576) ∧ Hid (∀ j (h : j < ts.length), j < k → ts[j].length ≤ 1048576) ∧ Below w.heap.size w wr) (fun _ i _ => ts.length - (intOf i).toNat)
    case atStart => exact ⟨0, Nat.zero_le _, rfl, ⟨_, rfl, by omega, by omega⟩, fun j _ hj => by omega, Below.refl _ _⟩
    case round =>
      obtain ⟨k, hk, rfl, ⟨r, rfl, hr0, hr1⟩, HK, hb⟩ := hrel
      by_cases hlt : k < ts.length
      · obtain ⟨b, off, rfl, K, kc, c0, hn⟩ := (HR.out.keep hb).at_ hlt
        have hlt' : (k : Int) < (ts.length : Int) := by omega
        have hz1 := HS.out _ (List.getElem_mem hlt)
        clear hn
        go_wp2_with fail
        refine (szIt_any K kc _ r _ hz1 hr0 hr1).mono ?_
        rintro e w2 ⟨r2, rfl, hr2, hr', rfl⟩
        have hb' := hb
        by_cases hneg : r2 < 0
        · go_wp2
          go_ret
          exact ⟨-1, rfl, .inl (by omega), hb'⟩
        · have hr3 : ts[k].length ≤ 1048576 := by omega
          have HR3 := Lib.hid hr3
          clear hr' hr3 c0 hz1
          go_wp2
          go_roundw
          case rel => exact ⟨k + 1, by omega, by go_num, ⟨r2, rfl, by omega, by omega⟩, fun j h hj => by
            rcases Nat.lt_succ_iff_lt_or_eq.1 hj with h3 | h3
            · exact HK j h h3
            · subst h3; exact HR3.out, hb'⟩
          case measure => simp [intOf]; omega
      · have hlt' : ¬ (k : Int) < (ts.length : Int) := by omega
        go_wp2
        go_ret
        refine ⟨r, rfl, .inr ⟨hr0, by omega, fun n hn => ?_⟩, hb⟩
        obtain ⟨j, hj, rfl⟩ := List.getElem_of_mem hn
        exact HK j hj (by omega)

set_option maxHeartbeats 400000 in
theorem szChart_any (a : Option Addr) (c : Nat) (ts : List (List Sy)) (left : Int) (w : World) (hr : Sts w a ts) (hm : ts.length ≤ maxLen) (hs : ∀ t ∈ ts, t.length ≤ maxLen) (hl0 : 0 ≤ left) (hl1 : left ≤ 1048576) :
    Calls Try.prog 6 #[.agg #[.slice a ts.length c], .int .i64 left] w fun e w' => ∃ r : Int, e = .returned (.int .i64 r) ∧ (r < 0 ∨ (0 ≤ r ∧ ts.length ≤ 1048576 ∧ SmallT ts)) ∧ Below w.heap.size w w' := by
  have HR := Lib.hid hr
  have HS := Lib.hid hs
  clear hr hs
  go_enter Try.func6, Try.ntmps6
  go_wp2_with fail
  refine (szSts_any a c ts left _ (HR.out.keep (below_box _)) hm HS.out hl0 hl1).mono ?_
  rintro e w1 ⟨r, rfl, hz, hb⟩
  have hb' : Below w.heap.size w w1 := (below_box _).trans (hb.mono (by simp))
  by_cases hn : r < 0
  · go_wp2
    go_ret
    exact ⟨-1, rfl, .inl (by omega), hb'⟩
  · go_wp2
    go_ret
    exact ⟨r, rfl, hz, hb'⟩

set_option maxRecDepth 100000 in
set_option maxHeartbeats 1000000 in
theorem szPdsB_any (a : Option Addr) (c : Nat) (ps : List Pd) (left : Int) (w : World) (hr : Pds w a ps) (hm : ps.length ≤ maxLen) (hs : ∀ p ∈ ps, p.body.length ≤ maxLen) (hl0 : 0 ≤ left) (hl1 : left ≤ 1048576) :
    Calls Try.prog 20 #[.slice a ps.length c, .int .i64 left] w fun e w' => ∃ r : Int, e = .returned (.int .i64 r) ∧ r ≤ 1048576 ∧ (r < 0 ∨ (0 ≤ r ∧ ps.length ≤ 1048576 ∧ Small ps)) ∧ Below w.heap.size w w' := by
  have HR := Lib.hid hr
  have HS := Lib.hid hs
  clear hr hs
  unfold maxLen at hm
  by_cases h1 : left - (ps.length : Int) < 0
  · go_enter Try.func20, Try.ntmps20
    go_wp2
    go_ret
    exact ⟨-1, rfl, by omega, .inl (by omega), Below.refl _ _⟩
  · go_enter Try.func20, Try.ntmps20
    go_wp2
    go_loopw [1, 5] (fun l i wr => ∃ k : Nat, k ≤ ps.length ∧ i = .int .i64 k ∧ (∃ r : Int, l = .int .i64 r ∧ 0 ≤ r ∧ r ≤ 1048576) ∧ Hid (∀ j (h : j < ps.length), j < k → ps[j].body.length ≤ 1048576) ∧ Below w.heap.size w wr) (fun _ i _ => ps.length - (intOf i).toNat)
    case atStart => exact ⟨0, Nat.zero_le _, rfl, ⟨_, rfl, by omega, by omega⟩, fun j _ hj => by omega, Below.refl _ _⟩
    case round =>
      obtain ⟨k, hk, rfl, ⟨r, rfl, hr0, hr1⟩, HK, hb⟩ := hrel
      by_cases hlt : k < ps.length
      · obtain ⟨b, off, rfl, K, kc, hn⟩ := (HR.out.keep hb).at_ hlt
        have hlt' : (k : Int) < (ps.length : Int) := by omega
        have hz1 := HS.out _ (List.getElem_mem hlt)
        have c0 := hn.c0
        have c1 := hn.c1
        clear hn
        go_wp2_with fail
        refine (szPd_any _ K kc _ r _ hz1 hr0 hr1).mono ?_
        rintro e w2 ⟨r2, rfl, hr2, hr', hb2⟩
        have hb' := hb.trans (hb2.mono hb.size)
        by_cases hneg : r2 < 0
        · go_wp2
          go_ret
          exact ⟨-1, rfl, by omega, .inl (by omega), hb'⟩
        · have hr3 : ps[k].body.length ≤ 1048576 := by omega
          have HR3 := Lib.hid hr3
          clear hr' hr3 hb hb2 c0 c1 hz1
          go_wp2
          go_roundw
          case rel => exact ⟨k + 1, by omega, by go_num, ⟨r2, rfl, by omega, by omega⟩, fun j h hj => by
            rcases Nat.lt_succ_iff_lt_or_eq.1 hj with h3 | h3
            · exact HK j h h3
            · subst h3; exact HR3.out, hb'⟩
          case measure => simp [intOf]; omega
      · have hlt' : ¬ (k : Int) < (ps.length : Int) := by omega
        go_wp2
        go_ret
        refine ⟨r, rfl, hr1, .inr ⟨hr0, by omega, fun n hn => ?_⟩, hb⟩
        obtain ⟨j, hj, rfl⟩ := List.getElem_of_mem hn
        exact HK j hj (by omega)

set_option maxHeartbeats 400000 in
theorem szCfgB_any (a : Option Addr) (c : Nat) (ps : List Pd) (hd left : Int) (w : World) (hr : Pds w a ps) (hm : ps.length ≤ maxLen) (hs : ∀ p ∈ ps, p.body.length ≤ maxLen) (hl0 : 0 ≤ left) (hl1 : left ≤ 1048576) :
    Calls Try.prog 5 #[.agg #[.int .i64 hd, .slice a ps.length c], .int .i64 left] w fun e w' => ∃ r : Int, e = .returned (.int .i64 r) ∧ r ≤ 1048576 ∧ (r < 0 ∨ (0 ≤ r ∧ ps.length ≤ 1048576 ∧ Small ps)) ∧ Below w.heap.size w w' := by
  have HR := Lib.hid hr
  have HS := Lib.hid hs
  clear hr hs
  go_enter Try.func5, Try.ntmps5
  go_wp2_with fail
  refine (szPdsB_any a c ps left _ (HR.out.keep (below_box _)) hm HS.out hl0 hl1).mono ?_
  rintro e w1 ⟨r, rfl, hr1, hz, hb⟩
  have hb' : Below w.heap.size w w1 := (below_box _).trans (hb.mono (by simp))
  by_cases hn : r < 0
  · go_wp2
    go_ret
    exact ⟨-1, rfl, by omega, .inl (by omega), hb'⟩
  · go_wp2
    go_ret
    exact ⟨r, rfl, hr1, hz, hb'⟩

end Go.Proofs.Ytafldjbmheopjaa
