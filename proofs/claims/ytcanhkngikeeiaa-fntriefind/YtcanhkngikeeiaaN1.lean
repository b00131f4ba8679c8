/- Nodes of a tree in memory, and how large they are. -/
import Derived.Test.YtcanhkngikeeiaaL7
import Derived.Test.YtcanhkngikeeiaaD3
namespace Go.Proofs.Ytcanhkngikeeiaa
open Go.RowKit
set_option linter.unusedVariables false

structure Node where
  byte : Int
  kids : List Int
  ids : List Int
deriving Inhabited

/-- One node in three cells of its own from a place on. -/
structure NodeAt (w : World) (b off : Nat) (n : Node) (K : Option Addr) (kc : Nat) (J : Option Addr) (jc : Nat) : Prop where
  c0 : w.cell? ⟨b, off, none⟩ = some (.int .i64 n.byte)
  c1 : w.cell? ⟨b, off + 1, none⟩ = some (.slice K n.kids.length kc)
  c2 : w.cell? ⟨b, off + 2, none⟩ = some (.slice J n.ids.length jc)
  k : Row w K (ints n.kids)
  j : Row w J (ints n.ids)

theorem NodeAt.keep {w w' : World} {b off : Nat} {n : Node} {K J : Option Addr} {kc jc : Nat} (h : NodeAt w b off n K kc J jc) (hb : Below w.heap.size w w') : NodeAt w' b off n K kc J jc :=
  ⟨cell_keep hb h.c0, cell_keep hb h.c1, cell_keep hb h.c2, h.k.keep hb, h.j.keep hb⟩

/-- Nodes, one behind the other. -/
def Nodes (w : World) (a : Option Addr) (ns : List Node) : Prop :=
  ns = [] ∨ ∃ b off, a = some ⟨b, off, none⟩ ∧ ∀ i (h : i < ns.length), ∃ K kc J jc, NodeAt w b (off + i * 3) ns[i] K kc J jc

theorem Nodes.keep {w w' : World} {a : Option Addr} {ns : List Node} (h : Nodes w a ns) (hb : Below w.heap.size w w') : Nodes w' a ns := by
  rcases h with h | ⟨b, off, e, h⟩
  · exact .inl h
  · refine .inr ⟨b, off, e, fun i hi => ?_⟩
    obtain ⟨K, kc, J, jc, hn⟩ := h i hi
    exact ⟨K, kc, J, jc, hn.keep hb⟩
theorem Nodes.at_ {w : World} {a : Option Addr} {ns : List Node} (h : Nodes w a ns) {i : Nat} (hi : i < ns.length) : ∃ b off, a = some ⟨b, off, none⟩ ∧ ∃ K kc J jc, NodeAt w b (off + i * 3) ns[i] K kc J jc := by
  rcases h with h | ⟨b, off, e, h⟩
  · rw [h] at hi; simp at hi
  · exact ⟨b, off, e, h i hi⟩
theorem Nodes.alloc {w : World} {a : Option Addr} {ns : List Node} (h : Nodes w a ns) (o : Obj) : Nodes (w.alloc o) a ns := h.keep ((Below.refl _ _).alloc (Nat.le_refl _) _)
theorem Nodes.drewN {w : World} {a : Option Addr} {ns : List Node} (h : Nodes w a ns) (n : Nat) : Nodes (w.drewN n) a ns := h.keep (below_drewN (Below.refl _ _) n)
theorem Nodes.drew {w : World} {a : Option Addr} {ns : List Node} (h : Nodes w a ns) : Nodes w.drew a ns := h.keep (Below.refl _ _).drew

set_option maxHeartbeats 400000 in
theorem szI_any (a : Option Addr) (c n : Nat) (left : Int) (w : World) (hm : n ≤ maxLen) (hl0 : 0 ≤ left) (hl1 : left ≤ 1048576) :
    Calls Try.prog 87 #[.slice a n c, .int .i64 left] w fun e w' => ∃ r : Int, e = .returned (.int .i64 r) ∧ r ≤ 1048576 ∧ (r < 0 ∨ (0 ≤ r ∧ n ≤ 1048576)) ∧ w = w' := by
  unfold maxLen at hm
  by_cases h1 : left - (n : Int) < 0
  · go_enter Try.func87, Try.ntmps87
    go_wp2
    go_ret
    exact ⟨-1, rfl, by omega, .inl (by omega), rfl⟩
  · go_enter Try.func87, Try.ntmps87
    go_wp2
    go_ret
    exact ⟨_, rfl, by omega, .inr ⟨by omega, by omega⟩, rfl⟩

set_option maxHeartbeats 400000 in
theorem szT_any (n m : Nat) (K : Option Addr) (kc : Nat) (J : Option Addr) (jc : Nat) (x left : Int) (w : World) (hn : n ≤ maxLen) (hm : m ≤ maxLen) (hl0 : 0 ≤ left) (hl1 : left ≤ 1048576) :
    Calls Try.prog 75 #[.agg #[.int .i64 x, .slice K n kc, .slice J m jc], .int .i64 left] w fun e w' => ∃ r : Int, e = .returned (.int .i64 r) ∧ r ≤ 1048576 ∧ (r < 0 ∨ (0 ≤ r ∧ n ≤ 1048576 ∧ m ≤ 1048576)) ∧ Below w.heap.size w w' := by
  go_enter Try.func75, Try.ntmps75
  go_wp2_with fail
  refine (szI_any K kc n left _ hn hl0 hl1).mono ?_
  rintro e w1 ⟨r, rfl, hr1, hr, rfl⟩
  by_cases h0 : r < 0
  · go_wp2
    go_ret
    exact ⟨-1, rfl, by omega, .inl (by omega), below_box _⟩
  · go_wp2_with fail
    refine (szI_any J jc m r _ hm (by omega) hr1).mono ?_
    rintro e w2 ⟨r2, rfl, hr2, hr', rfl⟩
    by_cases h1 : r2 < 0
    · go_wp2
      go_ret
      exact ⟨-1, rfl, by omega, .inl (by omega), below_box _⟩
    · go_wp2
      go_ret
      exact ⟨r2, rfl, by omega, .inr ⟨by omega, by omega, by omega⟩, below_box _⟩

/-- Small enough to be copied. -/
def Small (ns : List Node) : Prop := ∀ n ∈ ns, n.kids.length ≤ 1048576 ∧ n.ids.length ≤ 1048576

set_option maxRecDepth 100000 in
set_option maxHeartbeats 1000000 in
theorem szTS_any (a : Option Addr) (c : Nat) (ns : List Node) (left : Int) (w : World) (hr : Nodes w a ns) (hm : ns.length ≤ maxLen) (hs : ∀ n ∈ ns, n.kids.length ≤ maxLen ∧ n.ids.length ≤ maxLen) (hl0 : 0 ≤ left) (hl1 : left ≤ 1048576) :
    Calls Try.prog 47 #[.slice a ns.length c, .int .i64 left] w fun e w' => ∃ r : Int, e = .returned (.int .i64 r) ∧ (r < 0 ∨ (0 ≤ r ∧ ns.length ≤ 1048576 ∧ Small ns)) ∧ Below w.heap.size w w' := by
  have HR := Lib.hid hr
  have HS := Lib.hid hs
  clear hr hs
  unfold maxLen at hm
  by_cases h1 : left - (ns.length : Int) < 0
  · go_enter Try.func47, Try.ntmps47
    go_wp2
    go_ret
    exact ⟨-1, rfl, .inl (by omega), Below.refl _ _⟩
  · go_enter Try.func47, Try.ntmps47
    go_wp2
    go_loopw [1, 5] (fun l i wr => ∃ k : Nat, k ≤ ns.length ∧ i = .int .i64 k ∧ (∃ r : Int, l = .int .i64 r ∧ 0 ≤ r ∧ r ≤ 1048576) ∧ Hid (∀ j (h : j < ns.length), j < k → ns[j].kids.length ≤ 1048576 ∧ ns[j].ids.length ≤ 1048576) ∧ Below w.heap.size w wr) (fun _ i _ => ns.length - (intOf i).toNat)
    case atStart => exact ⟨0, Nat.zero_le _, rfl, ⟨_, rfl, by omega, by omega⟩, fun j _ hj => by omega, Below.refl _ _⟩
    case round =>
      obtain ⟨k, hk, rfl, ⟨r, rfl, hr0, hr1⟩, HK, hb⟩ := hrel
      by_cases hlt : k < ns.length
      · obtain ⟨b, off, rfl, K, kc, J, jc, hn⟩ := (HR.out.keep hb).at_ hlt
        have hlt' : (k : Int) < (ns.length : Int) := by omega
        obtain ⟨hz1, hz2⟩ := HS.out _ (List.getElem_mem hlt)
        have c0 := hn.c0
        have c1 := hn.c1
        have c2 := hn.c2
        clear hn
        go_wp2_with fail
        refine (szT_any _ _ K kc J jc _ r _ hz1 hz2 hr0 hr1).mono ?_
        rintro e w2 ⟨r2, rfl, hr2, hr', hb2⟩
        have hb' := hb.trans (hb2.mono hb.size)
        by_cases hneg : r2 < 0
        · go_wp2
          go_ret
          exact ⟨-1, rfl, .inl (by omega), hb'⟩
        · have hr3 : ns[k].kids.length ≤ 1048576 ∧ ns[k].ids.length ≤ 1048576 := by omega
          have HR3 := Lib.hid hr3
          clear hr' hr3 hb hb2 c0 c1 c2 hz1 hz2
          go_wp2
          go_roundw
          case rel => exact ⟨k + 1, by omega, by go_num, ⟨r2, rfl, by omega, by omega⟩, fun j h hj => by
            rcases Nat.lt_succ_iff_lt_or_eq.1 hj with h3 | h3
            · exact HK j h h3
            · subst h3; exact HR3.out, hb'⟩
          case measure => simp [intOf]; omega
      · have hlt' : ¬ (k : Int) < (ns.length : Int) := by omega
        go_wp2
        go_ret
        refine ⟨r, rfl, .inr ⟨hr0, by omega, fun n hn => ?_⟩, hb⟩
        obtain ⟨j, hj, rfl⟩ := List.getElem_of_mem hn
        exact HK j hj (by omega)

end Go.Proofs.Ytcanhkngikeeiaa
