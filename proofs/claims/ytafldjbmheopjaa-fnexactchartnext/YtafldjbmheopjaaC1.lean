/- Symbols and productions in memory, and how large they are. -/
import Derived.Test.YtafldjbmheopjaaBase
namespace Go.Proofs.Ytafldjbmheopjaa
open Go.RowKit
set_option linter.unusedVariables false

theorem ret_bool {a b : Bool} (h : a = b) : Ending.returned (.bool a) = .returned (.bool b) := by rw [h]
theorem ret_int {k : IntKind} {a b : Int} (h : a = b) : Ending.returned (.int k a) = .returned (.int k b) := by rw [h]
theorem below_box {w : World} (o : Obj) : Below w.heap.size w (w.alloc o) := (Below.refl _ _).alloc (Nat.le_refl _) _
theorem below_drewN {B : Nat} {a w : World} (h : Below B a w) (n : Nat) : Below B a (w.drewN n) := ⟨h.os, h.tape, h.output, h.size, h.block⟩

structure Sy where
  head : Int
  low : Int
  high : Int
deriving Inhabited, DecidableEq

structure Pd where
  head : Int
  body : List Sy
deriving Inhabited, DecidableEq

/-- A symbol as a value. -/
def Sy.val (s : Sy) : Value := .agg #[.int .i64 s.head, .int .i64 s.low, .int .i64 s.high]

/-- One symbol in three cells from a place on. -/
structure SyAt (w : World) (b off : Nat) (s : Sy) : Prop where
  c0 : w.cell? ⟨b, off, none⟩ = some (.int .i64 s.head)
  c1 : w.cell? ⟨b, off + 1, none⟩ = some (.int .i64 s.low)
  c2 : w.cell? ⟨b, off + 2, none⟩ = some (.int .i64 s.high)

theorem SyAt.keep {w w' : World} {b off : Nat} {s : Sy} (h : SyAt w b off s) (hb : Below w.heap.size w w') : SyAt w' b off s :=
  ⟨cell_keep hb h.c0, cell_keep hb h.c1, cell_keep hb h.c2⟩

/-- Symbols, one behind the other. -/
def Syms (w : World) (a : Option Addr) (ss : List Sy) : Prop :=
  ss = [] ∨ ∃ b off, a = some ⟨b, off, none⟩ ∧ ∀ i (h : i < ss.length), SyAt w b (off + i * 3) ss[i]

theorem Syms.keep {w w' : World} {a : Option Addr} {ss : List Sy} (h : Syms w a ss) (hb : Below w.heap.size w w') : Syms w' a ss := by
  rcases h with h | ⟨b, off, e, h⟩
  · exact .inl h
  · exact .inr ⟨b, off, e, fun i hi => (h i hi).keep hb⟩
theorem Syms.at_ {w : World} {a : Option Addr} {ss : List Sy} (h : Syms w a ss) {i : Nat} (hi : i < ss.length) : ∃ b off, a = some ⟨b, off, none⟩ ∧ SyAt w b (off + i * 3) ss[i] := by
  rcases h with h | ⟨b, off, e, h⟩
  · rw [h] at hi; simp at hi
  · exact ⟨b, off, e, h i hi⟩
theorem Syms.drew {w : World} {a : Option Addr} {ss : List Sy} (h : Syms w a ss) : Syms w.drew a ss := h.keep (Below.refl _ _).drew
theorem Syms.drewN {w : World} {a : Option Addr} {ss : List Sy} (h : Syms w a ss) (n : Nat) : Syms (w.drewN n) a ss := h.keep (below_drewN (Below.refl _ _) n)

/-- The cells of symbols. -/
def symCells : List Sy → List Value
  | [] => []
  | s :: r => .int .i64 s.head :: .int .i64 s.low :: .int .i64 s.high :: symCells r
theorem symCells_length (ss : List Sy) : (symCells ss).length = ss.length * 3 := by
  induction ss with
  | nil => rfl
  | cons s r ih => simp [symCells, ih]; omega
theorem symCells_append (a b : List Sy) : symCells (a ++ b) = symCells a ++ symCells b := by
  induction a with
  | nil => rfl
  | cons s r ih => simp [symCells, ih]
theorem symCells_get (ss : List Sy) : ∀ (i : Nat) (h : i < ss.length), (symCells ss)[i * 3]? = some (.int .i64 ss[i].head) ∧ (symCells ss)[i * 3 + 1]? = some (.int .i64 ss[i].low) ∧ (symCells ss)[i * 3 + 2]? = some (.int .i64 ss[i].high) := by
  induction ss with
  | nil => intro i h; simp at h
  | cons s r ih =>
    intro i h
    cases i with
    | zero => exact ⟨rfl, rfl, rfl⟩
    | succ n =>
      have := ih n (by simpa using h)
      have e : (n + 1) * 3 = n * 3 + 3 := by omega
      rw [e]
      simpa [symCells] using this
theorem Own.syms {w : World} {g : Nat} {t : TypeId} {ss : List Sy} (h : Own w g t (symCells ss)) : Syms w (some ⟨g, 0, none⟩) ss := by
  refine .inr ⟨g, 0, rfl, fun i hi => ?_⟩
  obtain ⟨h0, h1, h2⟩ := symCells_get ss i hi
  exact ⟨by rw [h.cell]; simpa using h0, by rw [h.cell]; simpa using h1, by rw [h.cell]; simpa using h2⟩

/-- One production in two cells from a place on. -/
structure PdAt (w : World) (b off : Nat) (p : Pd) (K : Option Addr) (kc : Nat) : Prop where
  c0 : w.cell? ⟨b, off, none⟩ = some (.int .i64 p.head)
  c1 : w.cell? ⟨b, off + 1, none⟩ = some (.slice K p.body.length kc)
  k : Syms w K p.body

theorem PdAt.keep {w w' : World} {b off : Nat} {p : Pd} {K : Option Addr} {kc : Nat} (h : PdAt w b off p K kc) (hb : Below w.heap.size w w') : PdAt w' b off p K kc :=
  ⟨cell_keep hb h.c0, cell_keep hb h.c1, h.k.keep hb⟩

/-- Productions, one behind the other. -/
def Pds (w : World) (a : Option Addr) (ps : List Pd) : Prop :=
  ps = [] ∨ ∃ b off, a = some ⟨b, off, none⟩ ∧ ∀ i (h : i < ps.length), ∃ K kc, PdAt w b (off + i * 2) ps[i] K kc

theorem Pds.keep {w w' : World} {a : Option Addr} {ps : List Pd} (h : Pds w a ps) (hb : Below w.heap.size w w') : Pds w' a ps := by
  rcases h with h | ⟨b, off, e, h⟩
  · exact .inl h
  · refine .inr ⟨b, off, e, fun i hi => ?_⟩
    obtain ⟨K, kc, hp⟩ := h i hi
    exact ⟨K, kc, hp.keep hb⟩
theorem Pds.at_ {w : World} {a : Option Addr} {ps : List Pd} (h : Pds w a ps) {i : Nat} (hi : i < ps.length) : ∃ b off, a = some ⟨b, off, none⟩ ∧ ∃ K kc, PdAt w b (off + i * 2) ps[i] K kc := by
  rcases h with h | ⟨b, off, e, h⟩
  · rw [h] at hi; simp at hi
  · exact ⟨b, off, e, h i hi⟩
theorem Pds.alloc {w : World} {a : Option Addr} {ps : List Pd} (h : Pds w a ps) (o : Obj) : Pds (w.alloc o) a ps := h.keep (below_box _)
theorem Pds.drew {w : World} {a : Option Addr} {ps : List Pd} (h : Pds w a ps) : Pds w.drew a ps := h.keep (Below.refl _ _).drew
theorem Pds.drewN {w : World} {a : Option Addr} {ps : List Pd} (h : Pds w a ps) (n : Nat) : Pds (w.drewN n) a ps := h.keep (below_drewN (Below.refl _ _) n)

set_option maxHeartbeats 400000 in
theorem szSy_any (a : Option Addr) (c n : Nat) (left : Int) (w : World) (hm : n ≤ maxLen) (hl0 : 0 ≤ left) (hl1 : left ≤ 1048576) :
    Calls Try.prog 58 #[.slice a n c, .int .i64 left] w fun e w' => ∃ r : Int, e = .returned (.int .i64 r) ∧ r ≤ 1048576 ∧ (r < 0 ∨ (0 ≤ r ∧ n ≤ 1048576)) ∧ w = w' := by
  unfold maxLen at hm
  by_cases h1 : left - (n : Int) < 0
  · go_enter Try.func58, Try.ntmps58
    go_wp2
    go_ret
    exact ⟨-1, rfl, by omega, .inl (by omega), rfl⟩
  · go_enter Try.func58, Try.ntmps58
    go_wp2
    go_ret
    exact ⟨_, rfl, by omega, .inr ⟨by omega, by omega⟩, rfl⟩

set_option maxHeartbeats 400000 in
theorem szPd_any (n : Nat) (K : Option Addr) (kc : Nat) (x left : Int) (w : World) (hn : n ≤ maxLen) (hl0 : 0 ≤ left) (hl1 : left ≤ 1048576) :
    Calls Try.prog 35 #[.agg #[.int .i64 x, .slice K n kc], .int .i64 left] w fun e w' => ∃ r : Int, e = .returned (.int .i64 r) ∧ r ≤ 1048576 ∧ (r < 0 ∨ (0 ≤ r ∧ n ≤ 1048576)) ∧ Below w.heap.size w w' := by
  go_enter Try.func35, Try.ntmps35
  go_wp2_with fail
  refine (szSy_any K kc n left _ hn hl0 hl1).mono ?_
  rintro e w1 ⟨r, rfl, hr1, hr, rfl⟩
  by_cases h0 : r < 0
  · go_wp2
    go_ret
    exact ⟨-1, rfl, by omega, .inl (by omega), below_box _⟩
  · go_wp2
    go_ret
    exact ⟨r, rfl, hr1, .inr ⟨by omega, by omega⟩, below_box _⟩

/-- Small enough to be copied. -/
def Small (ps : List Pd) : Prop := ∀ p ∈ ps, p.body.length ≤ 1048576

set_option maxRecDepth 100000 in
set_option maxHeartbeats 1000000 in
theorem szPds_any (a : Option Addr) (c : Nat) (ps : List Pd) (left : Int) (w : World) (hr : Pds w a ps) (hm : ps.length ≤ maxLen) (hs : ∀ p ∈ ps, p.body.length ≤ maxLen) (hl0 : 0 ≤ left) (hl1 : left ≤ 1048576) :
    Calls Try.prog 20 #[.slice a ps.length c, .int .i64 left] w fun e w' => ∃ r : Int, e = .returned (.int .i64 r) ∧ (r < 0 ∨ (0 ≤ r ∧ ps.length ≤ 1048576 ∧ Small ps)) ∧ Below w.heap.size w w' := by
  have HR := Lib.hid hr
  have HS := Lib.hid hs
  clear hr hs
  unfold maxLen at hm
  by_cases h1 : left - (ps.length : Int) < 0
  · go_enter Try.func20, Try.ntmps20
    go_wp2
    go_ret
    exact ⟨-1, rfl, .inl (by omega), Below.refl _ _⟩
  · go_enter Try.func20, Try.ntmps20
    go_wp2
    go_loopw [1, 5] (fun l i wr => ∃ k : Nat, k ≤ ps.length ∧ i = .int .i64 k ∧ (∃ r : Int, l = .int .i64 r ∧ 0 ≤ r ∧ r ≤ 1048576) ∧ Hid (∀ j (h : j < ps.length), j < k → ps[j].body.length ≤ 1048576) ∧ Below w.heap.size w wr) (fun _ i _ => ps.length - (intOf i).toNat)
    case atStart => exact ⟨0, Nat.zero_le _, rfl, ⟨_, rfl, by omega, by omega⟩, fun j _ hj => by omega, Below.refl _ _⟩
    case round =>
      obtain ⟨k, hk, rfl, ⟨r, rfl, hr0, hr1⟩, HK, hb⟩ := hrel
      by_cases hlt : k < ps.length
      · obtain ⟨b, off, rfl, K, kc, hn⟩ := (HR.out.keep hb).at_ hlt
        have hlt' : (k : Int) < (ps.length : Int) := by omega
        have hz1 := HS.out _ (List.getElem_mem hlt)
        have c0 := hn.c0
        have c1 := hn.c1
        clear hn
        go_wp2_with fail
        refine (szPd_any _ K kc _ r _ hz1 hr0 hr1).mono ?_
        rintro e w2 ⟨r2, rfl, hr2, hr', hb2⟩
        have hb' := hb.trans (hb2.mono hb.size)
        by_cases hneg : r2 < 0
        · go_wp2
          go_ret
          exact ⟨-1, rfl, .inl (by omega), hb'⟩
        · have hr3 : ps[k].body.length ≤ 1048576 := by omega
          have HR3 := Lib.hid hr3
          clear hr' hr3 hb hb2 c0 c1 hz1
          go_wp2
          go_roundw
          case rel => exact ⟨k + 1, by omega, by go_num, ⟨r2, rfl, by omega, by omega⟩, fun j h hj => by
            rcases Nat.lt_succ_iff_lt_or_eq.1 hj with h3 | h3
            · exact HK j h h3
            · subst h3; exact HR3.out, hb'⟩
          case measure => simp [intOf]; omega
      · have hlt' : ¬ (k : Int) < (ps.length : Int) := by omega
        go_wp2
        go_ret
        refine ⟨r, rfl, .inr ⟨hr0, by omega, fun n hn => ?_⟩, hb⟩
        obtain ⟨j, hj, rfl⟩ := List.getElem_of_mem hn
        exact HK j hj (by omega)

set_option maxHeartbeats 400000 in
theorem szCfg_any (a : Option Addr) (c : Nat) (ps : List Pd) (hd left : Int) (w : World) (hr : Pds w a ps) (hm : ps.length ≤ maxLen) (hs : ∀ p ∈ ps, p.body.length ≤ maxLen) (hl0 : 0 ≤ left) (hl1 : left ≤ 1048576) :
    Calls Try.prog 5 #[.agg #[.int .i64 hd, .slice a ps.length c], .int .i64 left] w fun e w' => ∃ r : Int, e = .returned (.int .i64 r) ∧ (r < 0 ∨ (0 ≤ r ∧ ps.length ≤ 1048576 ∧ Small ps)) ∧ Below w.heap.size w w' := by
  have HR := Lib.hid hr
  have HS := Lib.hid hs
  clear hr hs
  go_enter Try.func5, Try.ntmps5
  go_wp2_with fail
  refine (szPds_any a c ps left _ (HR.out.keep (below_box _)) hm HS.out hl0 hl1).mono ?_
  rintro e w1 ⟨r, rfl, hz, hb⟩
  have hb' : Below w.heap.size w w1 := (below_box _).trans (hb.mono (by simp))
  by_cases hn : r < 0
  · go_wp2
    go_ret
    exact ⟨-1, rfl, .inl (by omega), hb'⟩
  · go_wp2
    go_ret
    exact ⟨r, rfl, hz, hb'⟩

end Go.Proofs.Ytafldjbmheopjaa
