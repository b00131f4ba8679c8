/- A schema is drawn: l71Schema. -/
import Derived.Test.YtmmafhibojipjaaDoorJD3
import Derived.Deep.CutBlock
import Derived.Test.YtmmafhibojipjaaDoorJZ
namespace Go.Proofs.YtmmafhibojipjaaDoor
open Go.RowKit
set_option linter.unusedVariables false

theorem infoSc : (Tryd.prog.info? 72).map (fun i => (i.zero, i.size, i.bytes)) = some (some (.agg #[.int .i64 0, .int .i64 0, .int .i64 0, .slice none 0 0, .slice none 0 0, .slice none 0 0]), 6, 96) := by kernel_rfl
theorem infoSt : (Tryd.prog.info? 9).map (fun i => (i.zero, i.size, i.bytes)) = some (some (.string ⟨#[]⟩), 1, 16) := by kernel_rfl
theorem infoBo : (Tryd.prog.info? 4).map (fun i => (i.zero, i.size, i.bytes)) = some (some (.bool false), 1, 1) := by kernel_rfl

/-- What the schemas that are drawn are like. -/
inductive ScOk : Nat → Sc → Prop
  | mk (d : Nat) (k mn mx : Int) (ns : List ByteArray) (ms : List Bool) (kids : List Sc) : 1 ≤ k → k ≤ 8 → 0 ≤ mn → mn ≤ 2 → mn ≤ mx → mx ≤ mn + 2 → (k = 5 → 0 < kids.length) → (k = 6 → ms.length = ns.length ∧ kids.length = ns.length) → (k = 7 → 0 < kids.length) → (k = 8 → 0 < ns.length) →
    ns.length ≤ 4 → (∀ s ∈ ns, s.size ≤ 10) → kids.length ≤ 4 → (∀ p ∈ kids, ScOk d p) → ScOk (d + 1) (.mk k mn mx ns ms kids)

def costS (d : Nat) : Nat := 10 * 4 ^ d
theorem costS_succ (d : Nat) : costS (d + 1) = 4 * costS d := by unfold costS; rw [Nat.pow_succ]; omega
theorem costS_one (d : Nat) : 10 ≤ costS d := by unfold costS; have := Nat.pow_pos (n := d) (show 0 < 4 by decide); omega

/-- A schema is drawn: in new memory; of what was there only the reader's block has turned. -/
def SchemaPost (w : World) (B g N d : Nat) (e : Ending) (w' : World) : Prop :=
  ∃ (k mn mx : Int) (ns : List ByteArray) (ms : List Bool) (kids : List Sc) (A M K : Option Addr) (ca ma kc : Nat), e = .returned (.agg (c6 k mn mx A ns.length ca M ms.length ma K kids.length kc).toArray) ∧
    ScCT w' w.heap.size ns ms kids A M K ca ma kc ∧ ScOk d (.mk k mn mx ns ms kids) ∧ Rd w' B g (N + costS d) ∧ w.grownBy w' (some g)
def ScD (d : Nat) : Prop := ∀ (B g N : Nat) (w : World), Rd w B g N → B ≤ w.heap.size → N + costS d ≤ 50000 →
  Calls Tryd.prog 41 #[.pointer (some ⟨g, 0, none⟩), .int .i64 d] w (SchemaPost w B g N d)

theorem c6_cells {w : World} {P : Nat} {k mn mx : Int} {A M K : Option Addr} {la ca lm ma lk kc : Nat} (h : Own w P 72 (c6 k mn mx A la ca M lm ma K lk kc)) :
    w.cell? ⟨P, 0, none⟩ = some (.int .i64 k) ∧ w.cell? ⟨P, 1, none⟩ = some (.int .i64 mn) ∧ w.cell? ⟨P, 2, none⟩ = some (.int .i64 mx) ∧ w.cell? ⟨P, 3, none⟩ = some (.slice A la ca) ∧ w.cell? ⟨P, 4, none⟩ = some (.slice M lm ma) ∧ w.cell? ⟨P, 5, none⟩ = some (.slice K lk kc) :=
  ⟨by rw [h.cell]; rfl, by rw [h.cell]; rfl, by rw [h.cell]; rfl, by rw [h.cell]; rfl, by rw [h.cell]; rfl, by rw [h.cell]; rfl⟩

/-- The six cells of a block are written. -/
def six (w : World) (R : Nat) (a b c d e f : Value) : World := (((((w.setCell ⟨R, 0, none⟩ a).setCell ⟨R, 1, none⟩ b).setCell ⟨R, 2, none⟩ c).setCell ⟨R, 3, none⟩ d).setCell ⟨R, 4, none⟩ e).setCell ⟨R, 5, none⟩ f
theorem six_other {R : Nat} {w : World} (a b c d e f : Value) (i : Nat) (hi : i ≠ R) : (six w R a b c d e f).heap[i]? = w.heap[i]? := by
  unfold six
  rw [Below.heap_setCell _ _ _ i hi, Below.heap_setCell _ _ _ i hi, Below.heap_setCell _ _ _ i hi, Below.heap_setCell _ _ _ i hi, Below.heap_setCell _ _ _ i hi, Below.heap_setCell _ _ _ i hi]
theorem set_grown {R i : Nat} {w0 w : World} {row : Option Nat} (h : w0.grownBy w row) (hR : w0.heap.size ≤ R) (u : Value) : w0.grownBy (w.setCell ⟨R, i, none⟩ u) row :=
  ⟨h.os, h.tape, h.output, Nat.le_trans h.size (by simp), fun z hz hn => (Below.heap_setCell _ _ _ z (by show z ≠ R; omega)).trans (h.block z hz hn)⟩
theorem six_grown {R : Nat} {w0 w : World} {row : Option Nat} (h : w0.grownBy w row) (hR : w0.heap.size ≤ R) (a b c d e f : Value) : w0.grownBy (six w R a b c d e f) row :=
  set_grown (set_grown (set_grown (set_grown (set_grown (set_grown h hR a) hR b) hR c) hR d) hR e) hR f

set_option maxRecDepth 100000 in
set_option maxHeartbeats 4000000 in
theorem schema_step {d : Nat} (IH : 1 ≤ d → ScD d) (hd : d ≤ 3) : ScD (d + 1) := by
  intro B g N w hrd hB hN
  obtain ⟨i0, hi0, hz0, hz1, hz2⟩ := info_parts infoSc
  have HI := Lib.hid (And.intro hi0 (And.intro hz0 (And.intro hz1 hz2)))
  clear hi0 hz0 hz1 hz2
  obtain ⟨i1, hi0, hz0, hz1, hz2⟩ := info_parts infoSt
  have HIS := Lib.hid (And.intro hi0 (And.intro hz0 (And.intro hz1 hz2)))
  clear hi0 hz0 hz1 hz2
  obtain ⟨i2, hi0, hz0, hz1, hz2⟩ := info_parts infoBo
  have HIB := Lib.hid (And.intro hi0 (And.intro hz0 (And.intro hz1 hz2)))
  clear hi0 hz0 hz1 hz2
  have HIH := Lib.hid IH
  clear IH
  rw [costS_succ] at hN
  have hc1 := costS_one d
  obtain ⟨w1, hw1⟩ : ∃ w1, w.alloc (.cells #[.int .i64 0, .int .i64 0, .int .i64 0, .slice none 0 0, .slice none 0 0, .slice none 0 0] 72) = w1 := ⟨_, rfl⟩
  have HRD1 : Hid (Rd w1 B g N) := by rw [← hw1]; exact hrd.alloc hB _
  have HR1 : Hid (Own w1 w.heap.size 72 (c6 0 0 0 none 0 0 none 0 0 none 0 0)) := by rw [← hw1]; exact Own.new w 72 #[.int .i64 0, .int .i64 0, .int .i64 0, .slice none 0 0, .slice none 0 0, .slice none 0 0]
  have HG1 : Hid (w.grownBy w1 (some g)) := by rw [← hw1]; exact only_alloc (only_of_below (Below.refl _ _) (Nat.le_refl _) _) _
  have sz1 : w1.heap.size = w.heap.size + 1 := by rw [← hw1]; simp
  have HW1 := Lib.hid hw1
  have hg0 : g < w.heap.size := by have := hrd.ltB; omega
  clear hw1 hrd
  go_enter Tryd.func41, Tryd.ntmps41
  go_wp2_with fail
  rw [HW1.out]
  clear HW1
  refine (pick_any B g N 8 w1 HRD1.out (by omega) (by omega) (by omega)).mono ?_
  rintro e w2 ⟨v, rfl, hv0, hv1, hrd2, hg2⟩
  have hv2 : v ≤ 7 := by rcases hv1 with h | h <;> omega
  have HRD2 := Lib.hid hrd2
  have HG2 := Lib.hid hg2
  clear hrd2 hg2 hv1
  obtain ⟨bad, hbad⟩ : ∃ bad : Bool, bad = true ↔ (d = 0 ∧ 4 ≤ v ∧ v ≤ 6) := ⟨decide (d = 0 ∧ 4 ≤ v ∧ v ≤ 6), by simp⟩
  have HBAD := Lib.hid hbad
  clear hbad
  go_upto_region 2 with fail
  go_cut [20] (fun c wx => c = .bool bad ∧ wx = w2)
  case first =>
    have hb : ∀ q : Bool, (q = true ↔ (d = 0 ∧ 4 ≤ v ∧ v ≤ 6)) → Value.bool q = .bool bad := fun q hq => by
      rw [Bool.eq_iff_iff.2 (hq.trans HBAD.out.symm)]
    have HB := Lib.hid hb
    clear hb
    by_cases h1 : (d : Int) + 1 < 2
    · by_cases h2 : 4 ≤ v
      · by_cases h3 : v ≤ 6
        · go_wp2
          go_meet
          exact ⟨HB.out _ (by simp; omega), rfl⟩
        · go_wp2
          go_meet
          exact ⟨HB.out _ (by simp; omega), rfl⟩
      · go_wp2
        go_meet
        exact ⟨HB.out _ (by simp; omega), rfl⟩
    · go_wp2
      go_meet
      exact ⟨HB.out _ (by simp; omega), rfl⟩
  case rest =>
  obtain ⟨rfl, rfl⟩ := hcut
  go_upto_if 20 with fail
  go_cut [5] (fun q wx => ∃ j : Int, q = .int .i64 j ∧ 1 ≤ j ∧ j ≤ 8 ∧ (d = 0 → ¬ (5 ≤ j ∧ j ≤ 7)) ∧ Hid (Rd wx B g (N + 2)) ∧ Hid (w1.grownBy wx (some g)))
  case first =>
    cases bad
    · have hnb : ¬ (d = 0 ∧ 4 ≤ v ∧ v ≤ 6) := fun h => by have := HBAD.out.2 h; simp at this
      go_wp2
      go_meet
      exact ⟨1 + v, by go_num, by omega, by omega, fun h => by omega, HRD2.out.mono (Nat.le_refl _) (by omega), HG2⟩
    · go_wp2_with fail
      refine (pick_any B g (N + 1) 4 _ HRD2.out (by omega) (by omega) (by omega)).mono ?_
      rintro e w3 ⟨u, rfl, hu0, hu1, hrd3, hg3⟩
      have hu2 : u ≤ 3 := by rcases hu1 with h | h <;> omega
      go_wp2
      go_meet
      exact ⟨1 + u, by go_num, by omega, by omega, fun h => by omega, hrd3, only_trans HG2.out hg3⟩
  case rest =>
    obtain ⟨j, rfl, hj1, hj8, hj57, HRD3, HG3⟩ := hcut
    have HL := ScCS.start (w := wc) HRD3.out HG3.out (by omega) (c6 j 0 0 none 0 0 none 0 0 none 0 0)
    simp only [c6, List.length_nil] at HL
    have hcs := HL.hP
    obtain ⟨P, hP⟩ : ∃ P, wc.heap.size = P := ⟨_, rfl⟩
    have HPN := Lib.hid hP
    clear hP
    go_upto_block 0 with fail
    go_cut [] (fun wx => ∃ (N' : Nat) (mn mx : Int) (ns : List ByteArray) (ms : List Bool) (kids : List Sc) (A M K : Option Addr) (ca ma kc : Nat), Hid (N' ≤ N + costS (d + 1)) ∧ Hid (ScOk (d + 1) (.mk j mn mx ns ms kids)) ∧ Hid (ScCS w1 B g N' wc.heap.size (wc.heap.size + 1) (c6 j mn mx A ns.length ca M ms.length ma K kids.length kc) ns ms kids A M K ca ma kc wx))
    case first =>
      generalize wc.alloc (.cells #[.int .i64 j, .int .i64 0, .int .i64 0, .slice none 0 0, .slice none 0 0, .slice none 0 0] 72) = w3 at *
      have hdi : IntKind.i64.wrap ((d : Int) + 1 - 1) = (d : Int) := by rw [IntKind.wrap_i64]; omega
      have hdi2 : IntKind.i64.wrap (d : Int) = (d : Int) := by rw [IntKind.wrap_i64]; omega
      by_cases j4 : j = 4
      · have q4 : (j == 4) = true := by simp [j4]
        have J4 := Lib.hid j4
        clear j4 hj57
        have c1 := (c6_cells HL.p).2.1
        have f1 := HL.p.frozen 1
        have pl := HL.lt
        go_wp2_with fail
        refine (pick_any B g (N + 2) 3 _ HL.rd (by omega) (by omega) (by omega)).mono ?_
        rintro e w4 ⟨x, rfl, hx0, hx1, hrd4, hg4⟩
        replace HL := HL.touch hg4 hrd4
        have hx2 : x ≤ 2 := by rcases hx1 with h | h <;> omega
        clear hrd4 hg4 c1 f1 hx1 pl
        have c1 := (c6_cells HL.p).2.1
        have f1 := HL.p.frozen 1
        have pl := HL.lt
        go_upto_region 8 with fail
        replace HL := HL.set 1 (.int .i64 x)
        clear c1 f1 pl
        generalize w4.setCell ⟨wc.heap.size, 1, none⟩ (.int .i64 x) = w5 at *
        have c1 := (c6_cells (mn := x) HL.p).2.1
        have HP := Lib.hid (pick_any B g (N + 3) 3 _ HL.drew.rd (by omega) (by omega) (by omega))
        refine wp_region_held_drew (S := (fun X => X.cell? ⟨wc.heap.size, 1, none⟩ = some (.int .i64 x))) (by kernel_rfl) ?_ (fun hHeld => ?_)
        · exact c1
        (first
          | (refine held_take (i := 0) (v := ?_) rfl (by kernel_rfl) (by kernel_rfl) (by kernel_rfl) (fun _ _ _ h => h) (Or.inl ⟨rfl, ?_⟩) (by assumption) ?_; rotate_left; (intro X hSw; (try dsimp only at hSw); (go_simp <;> with_reducible rfl)))
          | (refine held_take (i := 0) (v := undef) rfl (by kernel_rfl) (by kernel_rfl) (by kernel_rfl) (fun _ _ _ h => h) (Or.inr ⟨rfl, rfl⟩) (by assumption) ?_)); simp only [Act.put, List.setIfInBounds_toArray, List.set_cons_zero, List.set_cons_succ]
        (first
          | (refine held_take (i := 1) (v := ?_) rfl (by kernel_rfl) (by kernel_rfl) (by kernel_rfl) (fun _ _ _ h => h) (Or.inl ⟨rfl, ?_⟩) (by assumption) ?_; rotate_left; (intro X hSw; (try dsimp only at hSw); (go_simp <;> with_reducible rfl)))
          | (refine held_take (i := 1) (v := undef) rfl (by kernel_rfl) (by kernel_rfl) (by kernel_rfl) (fun _ _ _ h => h) (Or.inr ⟨rfl, rfl⟩) (by assumption) ?_)); simp only [Act.put, List.setIfInBounds_toArray, List.set_cons_zero, List.set_cons_succ]
        (first
          | (refine held_take (i := 2) (v := ?_) rfl (by kernel_rfl) (by kernel_rfl) (by kernel_rfl) (fun _ _ _ h => h) (Or.inl ⟨rfl, ?_⟩) (by assumption) ?_; rotate_left; (intro X hSw; (try dsimp only at hSw); (go_simp <;> with_reducible rfl)))
          | (refine held_take (i := 2) (v := undef) rfl (by kernel_rfl) (by kernel_rfl) (by kernel_rfl) (fun _ _ _ h => h) (Or.inr ⟨rfl, rfl⟩) (by assumption) ?_)); simp only [Act.put, List.setIfInBounds_toArray, List.set_cons_zero, List.set_cons_succ]
        refine wpAnyH_ready (rs := [3]) (by kernel_rfl) (by simp) ?_
        refine AllReadyH.cons rfl (fun K hK => ?_) AllReadyH.nil
        go_simp
        go_wp2_with (go_at_call 42; refine HP.out.mono ?_; rintro e w6 ⟨y, rfl, hy0, hy1, hrd6, hg6⟩)
        replace HL := HL.drew.touch hg6 hrd6
        have hy2 : y ≤ 2 := by rcases hy1 with h | h <;> omega
        clear hrd6 hg6 hy1 HP c1
        have c1 := (c6_cells (mn := x) HL.p).2.1
        have c2 := (c6_cells (mn := x) HL.p).2.2.1
        have f2 := HL.p.frozen 2
        have pl := HL.lt
        have hw := IntWalk.i64_in (x + y) (by omega)
        refine hK.out _ _ ?_ (fun hHeld => ?_)
        · exact c1
        clear hK K
        (first
          | (refine held_take (i := 4) (v := ?_) rfl (by kernel_rfl) (by kernel_rfl) (by kernel_rfl) (fun _ _ _ h => h) (Or.inl ⟨rfl, ?_⟩) (by assumption) ?_; rotate_left; (intro X hSw; (try dsimp only at hSw); (go_simp <;> with_reducible rfl)))
          | (refine held_take (i := 4) (v := undef) rfl (by kernel_rfl) (by kernel_rfl) (by kernel_rfl) (fun _ _ _ h => h) (Or.inr ⟨rfl, rfl⟩) (by assumption) ?_)); simp only [Act.put, List.setIfInBounds_toArray, List.set_cons_zero, List.set_cons_succ]
        (first
          | (refine held_take (i := 5) (v := ?_) rfl (by kernel_rfl) (by kernel_rfl) (by kernel_rfl) (fun _ _ _ h => h) (Or.inl ⟨rfl, ?_⟩) (by assumption) ?_; rotate_left; (intro X hSw; (try dsimp only at hSw); (go_simp <;> with_reducible rfl)))
          | (refine held_take (i := 5) (v := undef) rfl (by kernel_rfl) (by kernel_rfl) (by kernel_rfl) (fun _ _ _ h => h) (Or.inr ⟨rfl, rfl⟩) (by assumption) ?_)); simp only [Act.put, List.setIfInBounds_toArray, List.set_cons_zero, List.set_cons_succ]
        refine wpAnyH_ready (rs := [6]) (by kernel_rfl) (by simp) ?_
        refine AllReadyH.cons rfl (fun K hK => ?_) AllReadyH.nil
        go_simp
        replace HL := HL.set 2 (.int .i64 (x + y))
        clear c1 c2 f2 pl hHeld
        generalize w6.setCell ⟨wc.heap.size, 2, none⟩ (.int .i64 (x + y)) = w7 at *
        have c1 := (c6_cells (mn := x) (mx := x + y) HL.p).2.1
        refine hK.out _ _ ?_ (fun hHeld => ?_)
        · exact c1
        clear hK K c1
        refine wpAnyH_done (by kernel_rfl) ?_ _
        go_wp2_with fail
        go_meet
        have jj := J4.out
        exact ⟨_, x, x + y, [], [], [], none, none, none, 0, 0, 0, by show _ ≤ _; rw [costS_succ]; omega, .mk d j x (x + y) [] [] [] hj1 hj8 (by omega) (by omega) (by omega) (by omega) (by omega) (by omega) (by omega) (by omega) (by simp) (by simp) (by simp) (by simp), HL⟩
      have q4 : (j == 4) = false := by simp [j4]
      by_cases j5 : j = 5
      · have q5 : (j == 5) = true := by simp [j5]
        have J5 := Lib.hid j5
        have hd1 : 1 ≤ d := by
          rcases Nat.eq_zero_or_pos d with h | h
          · exact absurd ⟨by omega, by omega⟩ (hj57 h)
          · exact h
        clear j4 j5 hj57
        have c1 := (c6_cells HL.p).2.1
        have f1 := HL.p.frozen 1
        have pl := HL.lt
        go_wp2_with fail
        refine (pick_any B g (N + 2) 3 _ HL.rd (by omega) (by omega) (by omega)).mono ?_
        rintro e w4 ⟨x, rfl, hx0, hx1, hrd4, hg4⟩
        replace HL := HL.touch hg4 hrd4
        have hx2 : x ≤ 2 := by rcases hx1 with h | h <;> omega
        clear hrd4 hg4 c1 f1 hx1 pl
        have c1 := (c6_cells HL.p).2.1
        have f1 := HL.p.frozen 1
        have pl := HL.lt
        go_upto_region 11 with fail
        replace HL := HL.set 1 (.int .i64 x)
        clear c1 f1 pl
        generalize w4.setCell ⟨wc.heap.size, 1, none⟩ (.int .i64 x) = w5 at *
        have c1 := (c6_cells (mn := x) HL.p).2.1
        have HP := Lib.hid (pick_any B g (N + 3) 3 _ HL.drew.rd (by omega) (by omega) (by omega))
        refine wp_region_held_drew (S := (fun X => X.cell? ⟨wc.heap.size, 1, none⟩ = some (.int .i64 x))) (by kernel_rfl) ?_ (fun hHeld => ?_)
        · exact c1
        (first
          | (refine held_take (i := 0) (v := ?_) rfl (by kernel_rfl) (by kernel_rfl) (by kernel_rfl) (fun _ _ _ h => h) (Or.inl ⟨rfl, ?_⟩) (by assumption) ?_; rotate_left; (intro X hSw; (try dsimp only at hSw); (go_simp <;> with_reducible rfl)))
          | (refine held_take (i := 0) (v := undef) rfl (by kernel_rfl) (by kernel_rfl) (by kernel_rfl) (fun _ _ _ h => h) (Or.inr ⟨rfl, rfl⟩) (by assumption) ?_)); simp only [Act.put, List.setIfInBounds_toArray, List.set_cons_zero, List.set_cons_succ]
        (first
          | (refine held_take (i := 1) (v := ?_) rfl (by kernel_rfl) (by kernel_rfl) (by kernel_rfl) (fun _ _ _ h => h) (Or.inl ⟨rfl, ?_⟩) (by assumption) ?_; rotate_left; (intro X hSw; (try dsimp only at hSw); (go_simp <;> with_reducible rfl)))
          | (refine held_take (i := 1) (v := undef) rfl (by kernel_rfl) (by kernel_rfl) (by kernel_rfl) (fun _ _ _ h => h) (Or.inr ⟨rfl, rfl⟩) (by assumption) ?_)); simp only [Act.put, List.setIfInBounds_toArray, List.set_cons_zero, List.set_cons_succ]
        (first
          | (refine held_take (i := 2) (v := ?_) rfl (by kernel_rfl) (by kernel_rfl) (by kernel_rfl) (fun _ _ _ h => h) (Or.inl ⟨rfl, ?_⟩) (by assumption) ?_; rotate_left; (intro X hSw; (try dsimp only at hSw); (go_simp <;> with_reducible rfl)))
          | (refine held_take (i := 2) (v := undef) rfl (by kernel_rfl) (by kernel_rfl) (by kernel_rfl) (fun _ _ _ h => h) (Or.inr ⟨rfl, rfl⟩) (by assumption) ?_)); simp only [Act.put, List.setIfInBounds_toArray, List.set_cons_zero, List.set_cons_succ]
        refine wpAnyH_ready (rs := [3]) (by kernel_rfl) (by simp) ?_
        refine AllReadyH.cons rfl (fun K hK => ?_) AllReadyH.nil
        go_simp
        go_wp2_with (go_at_call 42; refine HP.out.mono ?_; rintro e w6 ⟨y, rfl, hy0, hy1, hrd6, hg6⟩)
        replace HL := HL.drew.touch hg6 hrd6
        have hy2 : y ≤ 2 := by rcases hy1 with h | h <;> omega
        clear hrd6 hg6 hy1 HP c1
        have c1 := (c6_cells (mn := x) HL.p).2.1
        have c2 := (c6_cells (mn := x) HL.p).2.2.1
        have f2 := HL.p.frozen 2
        have pl := HL.lt
        have hw := IntWalk.i64_in (x + y) (by omega)
        refine hK.out _ _ ?_ (fun hHeld => ?_)
        · exact c1
        clear hK K
        (first
          | (refine held_take (i := 4) (v := ?_) rfl (by kernel_rfl) (by kernel_rfl) (by kernel_rfl) (fun _ _ _ h => h) (Or.inl ⟨rfl, ?_⟩) (by assumption) ?_; rotate_left; (intro X hSw; (try dsimp only at hSw); (go_simp <;> with_reducible rfl)))
          | (refine held_take (i := 4) (v := undef) rfl (by kernel_rfl) (by kernel_rfl) (by kernel_rfl) (fun _ _ _ h => h) (Or.inr ⟨rfl, rfl⟩) (by assumption) ?_)); simp only [Act.put, List.setIfInBounds_toArray, List.set_cons_zero, List.set_cons_succ]
        (first
          | (refine held_take (i := 5) (v := ?_) rfl (by kernel_rfl) (by kernel_rfl) (by kernel_rfl) (fun _ _ _ h => h) (Or.inl ⟨rfl, ?_⟩) (by assumption) ?_; rotate_left; (intro X hSw; (try dsimp only at hSw); (go_simp <;> with_reducible rfl)))
          | (refine held_take (i := 5) (v := undef) rfl (by kernel_rfl) (by kernel_rfl) (by kernel_rfl) (fun _ _ _ h => h) (Or.inr ⟨rfl, rfl⟩) (by assumption) ?_)); simp only [Act.put, List.setIfInBounds_toArray, List.set_cons_zero, List.set_cons_succ]
        refine wpAnyH_ready (rs := [6]) (by kernel_rfl) (by simp) ?_
        refine AllReadyH.cons rfl (fun K hK => ?_) AllReadyH.nil
        go_simp
        replace HL := HL.set 2 (.int .i64 (x + y))
        clear c1 c2 f2 pl hHeld
        generalize w6.setCell ⟨wc.heap.size, 2, none⟩ (.int .i64 (x + y)) = w7 at *
        have c1 := (c6_cells (mn := x) (mx := x + y) HL.p).2.1
        refine hK.out _ _ ?_ (fun hHeld => ?_)
        · exact c1
        clear hK K c1
        refine wpAnyH_done (by kernel_rfl) ?_ _
        have HC := Lib.hid (HIH.out hd1 B g (N + 3 + 1) w7 HL.rd (by have := HL.lt; have := HL.hB; have := HL.hP; omega) (by omega))
        have hsw8 := HL.lt
        go_wp2_with fail
        refine HC.out.mono ?_
        rintro e w8 ⟨pk, pmn, pmx, pns, pms, pkids, pA, pM, pK, pca, pma, pkc, rfl, pT, pok, hrd8, hg8⟩
        replace HL := HL.touch hg8 hrd8
        have HTK := Lib.hid (ScCT.ofKid (s := wc.heap.size + 1) ((pT.toC pk pmn pmx).mono fun b hb _ => by omega) (by have := HL.lt; omega))
        have HOK := Lib.hid pok
        replace HL := HL.grow (grown_alloc w8 (.cells (c6 pk pmn pmx pA pns.length pca pM pms.length pma pK pkids.length pkc).toArray 72)) (fun k hk => by cases hk) HTK.out
        clear pT pok hrd8 hg8 HC HTK
        have c5 := (c6_cells (mn := x) (mx := x + y) HL.p).2.2.2.2.2
        have f5 := HL.p.frozen 5
        have pl := HL.lt
        simp only [World.size_alloc] at pl
        have HL9 := Lib.hid (HL.set 5 (.slice (some ⟨w8.heap.size, 0, none⟩) 1 1))
        simp only [c6] at c5 f5 HL9 ⊢
        go_wp2_with fail
        go_meet
        have jj := J5.out
        exact ⟨_, x, x + y, [], [], [_], none, none, _, 0, 0, 1, by show _ ≤ _; rw [costS_succ]; omega, .mk d j x (x + y) [] [] [_] hj1 hj8 (by omega) (by omega) (by omega) (by omega) (by simp) (by omega) (by omega) (by omega) (by simp) (by simp) (by simp) (by simpa using HOK.out), HL9.out⟩
      have q5 : (j == 5) = false := by simp [j5]
      by_cases j6 : j = 6
      · have q6 : (j == 6) = true := by simp [j6]
        have J6 := Lib.hid j6
        have hd1 : 1 ≤ d := by
          rcases Nat.eq_zero_or_pos d with h | h
          · exact absurd ⟨by omega, by omega⟩ (hj57 h)
          · exact h
        clear j4 j5 j6 hj57
        have c0 := HL.lt
        go_wp2_with fail
        refine (pick_any B g (N + 2) 4 _ HL.rd (by omega) (by omega) (by omega)).mono ?_
        rintro e w4 ⟨v4, rfl, hv40, hv41, hrd4, hg4⟩
        replace HL := HL.touch hg4 hrd4
        have hv42 : v4 ≤ 3 := by rcases hv41 with h | h <;> omega
        clear hrd4 hg4 hv41 c0
        go_wp2
        go_loopw [7] (fun c wr => ∃ (i : Nat) (ns : List ByteArray) (ms : List Bool) (kids : List Sc) (A M K : Option Addr) (ca ma kc : Nat), c = .int .i64 i ∧ i ≤ 3 ∧ ns.length + i ≤ 3 ∧ ms.length = ns.length ∧ kids.length = ns.length ∧ Hid (∀ s ∈ ns, s.size ≤ 10) ∧ Hid (∀ p ∈ kids, ScOk d p) ∧ Hid (ScCS w1 B g (N + 3 + (3 - i) * (1 + costS d)) wc.heap.size (wc.heap.size + 1) (c6 j 0 0 A ns.length ca M ms.length ma K kids.length kc) ns ms kids A M K ca ma kc wr)) (fun c _ => (intOf c).toNat)
        case atStart => exact ⟨v4.toNat, [], [], [], none, none, none, 0, 0, 0, by go_num, by omega, by simp; omega, rfl, rfl, by show ∀ _, _; simp, by show ∀ _, _; simp, HL.mono (by omega)⟩
        case round =>
          clear HL
          obtain ⟨i, ns, ms, kids, A, M, KA, ca, ma, kc, rfl, hi3, hnl, hml, hkl, HNS, HKS, HLI⟩ := hrel
          have HL := HLI.out
          clear HLI
          have hsz := HL.lt
          by_cases hi1 : 0 < i
          · have hi2 : (0 : Int) < (i : Int) := by omega
            have hi4 : (i : Int) < 4 := by omega
            have hci : (3 - i) * (1 + costS d) + (1 + costS d) ≤ 3 * (1 + costS d) := by rw [← Nat.succ_mul]; exact Nat.mul_le_mul_right _ (by omega)
            have hcj : (3 - (i - 1)) * (1 + costS d) = (3 - i) * (1 + costS d) + (1 + costS d) := by rw [show 3 - (i - 1) = (3 - i) + 1 by omega, Nat.succ_mul]
            have HCI := Lib.hid (And.intro hci hcj)
            generalize hNI : N + 3 + (3 - i) * (1 + costS d) = NI at HL
            have HNI := Lib.hid hNI
            have HML := Lib.hid (And.intro hml hkl)
            have hmle : ms.length ≤ 3 := by omega
            have hkle : kids.length ≤ 3 := by omega
            clear hci hcj hNI hml hkl
            have c3 := (c6_cells HL.p).2.2.2.1
            go_wp2
            refine wp_region_upto (S := (fun X => X.cell? ⟨wc.heap.size, 3, none⟩ = some (.slice A ns.length ca))) (z := 9) (by kernel_rfl) ?_ (fun hHeld => ?_)
            · exact c3
            clear c3
            (first
              | (refine upto_take (i := 0) (v := ?_) rfl rfl (by kernel_rfl) (by kernel_rfl) (by kernel_rfl) (by kernel_rfl) (fun _ _ _ h => h) (Or.inl ⟨rfl, ?_⟩) (by assumption) ?_; rotate_left; (intro X hSw; (try dsimp only at hSw); (go_simp <;> with_reducible rfl)))
              | (refine upto_take (i := 0) (v := undef) rfl rfl (by kernel_rfl) (by kernel_rfl) (by kernel_rfl) (by kernel_rfl) (fun _ _ _ h => h) (Or.inr ⟨rfl, rfl⟩) (by assumption) ?_)); simp only [Act.put, List.setIfInBounds_toArray, List.set_cons_zero, List.set_cons_succ]
            (first
              | (refine upto_take (i := 1) (v := ?_) rfl rfl (by kernel_rfl) (by kernel_rfl) (by kernel_rfl) (by kernel_rfl) (fun _ _ _ h => h) (Or.inl ⟨rfl, ?_⟩) (by assumption) ?_; rotate_left; (intro X hSw; (try dsimp only at hSw); (go_simp <;> with_reducible rfl)))
              | (refine upto_take (i := 1) (v := undef) rfl rfl (by kernel_rfl) (by kernel_rfl) (by kernel_rfl) (by kernel_rfl) (fun _ _ _ h => h) (Or.inr ⟨rfl, rfl⟩) (by assumption) ?_)); simp only [Act.put, List.setIfInBounds_toArray, List.set_cons_zero, List.set_cons_succ]
            (first
              | (refine upto_take (i := 3) (v := ?_) rfl rfl (by kernel_rfl) (by kernel_rfl) (by kernel_rfl) (by kernel_rfl) (fun _ _ _ h => h) (Or.inl ⟨rfl, ?_⟩) (by assumption) ?_; rotate_left; (intro X hSw; (try dsimp only at hSw); (go_simp <;> with_reducible rfl)))
              | (refine upto_take (i := 3) (v := undef) rfl rfl (by kernel_rfl) (by kernel_rfl) (by kernel_rfl) (by kernel_rfl) (fun _ _ _ h => h) (Or.inr ⟨rfl, rfl⟩) (by assumption) ?_)); simp only [Act.put, List.setIfInBounds_toArray, List.set_cons_zero, List.set_cons_succ]
            refine upto_ready (i := 2) (by kernel_rfl) rfl (fun K hK => ?_)
            go_simp
            replace HL := (HL.alloc (.cells #[.string ⟨#[97]⟩, .string ⟨#[98, 98]⟩, .string ⟨#[99, 99, 99]⟩, .string ⟨#[100, 100]⟩] 9)).drew
            obtain ⟨s, hs10, xs⟩ : ∃ s : ByteArray, s.size ≤ 10 ∧ (wr.alloc (.cells #[.string ⟨#[97]⟩, .string ⟨#[98, 98]⟩, .string ⟨#[99, 99, 99]⟩, .string ⟨#[100, 100]⟩] 9)).drew.cell? ⟨wr.heap.size, i, none⟩ = some (.string s) := by
              have hO := (Own.new wr 9 #[.string ⟨#[97]⟩, .string ⟨#[98, 98]⟩, .string ⟨#[99, 99, 99]⟩, .string ⟨#[100, 100]⟩]).drew
              have h4 : i = 1 ∨ i = 2 ∨ i = 3 := by omega
              rcases h4 with rfl | rfl | rfl
              · exact ⟨⟨#[98, 98]⟩, by decide, by rw [hO.cell]; rfl⟩
              · exact ⟨⟨#[99, 99, 99]⟩, by decide, by rw [hO.cell]; rfl⟩
              · exact ⟨⟨#[100, 100]⟩, by decide, by rw [hO.cell]; rfl⟩
            have szr : wr.heap.size + 1 = (wr.alloc (.cells #[.string ⟨#[97]⟩, .string ⟨#[98, 98]⟩, .string ⟨#[99, 99, 99]⟩, .string ⟨#[100, 100]⟩] 9)).drew.heap.size := by show _ = (wr.alloc _).heap.size; simp
            clear hHeld
            generalize (wr.alloc (.cells #[.string ⟨#[97]⟩, .string ⟨#[98, 98]⟩, .string ⟨#[99, 99, 99]⟩, .string ⟨#[100, 100]⟩] 9)).drew = wa at *
            refine hK.out _ _ ?_ (fun hHeld => ?_)
            · exact (c6_cells HL.p).2.2.2.1
            clear hK K
            (first
              | (refine upto_take (i := 4) (v := ?_) rfl rfl (by kernel_rfl) (by kernel_rfl) (by kernel_rfl) (by kernel_rfl) (fun _ _ _ h => h) (Or.inl ⟨rfl, ?_⟩) (by assumption) ?_; rotate_left; (intro X hSw; (try dsimp only at hSw); (go_simp <;> with_reducible rfl)))
              | (refine upto_take (i := 4) (v := undef) rfl rfl (by kernel_rfl) (by kernel_rfl) (by kernel_rfl) (by kernel_rfl) (fun _ _ _ h => h) (Or.inr ⟨rfl, rfl⟩) (by assumption) ?_)); simp only [Act.put, List.setIfInBounds_toArray, List.set_cons_zero, List.set_cons_succ]
            refine upto_ready (i := 5) (by kernel_rfl) rfl (fun K hK => ?_)
            go_simp
            refine hK.out _ _ ?_ (fun hHeld => ?_)
            · exact hHeld
            clear hK K
            refine upto_ready (i := 6) (by kernel_rfl) rfl (fun K hK => ?_)
            replace HL := HL.alloc (.cells #[.string s] 9)
            go_simp
            clear hHeld xs
            have HN := Lib.hid (cells_new wa [.string s] 9)
            simp only [List.toArray] at HN
            have swb : wa.heap.size + 1 = (wa.alloc (.cells #[.string s] 9)).heap.size := by simp
            have swl : wc.heap.size < wa.heap.size := by omega
            refine hK.out _ _ ?_ (fun hHeld => ?_)
            · exact (c6_cells HL.p).2.2.2.1
            clear hK K
            refine upto_ready (i := 7) (by kernel_rfl) rfl (fun K hK => ?_)
            refine step_own_v (wa.alloc (.cells #[.string s] 9)) rfl _ _ 23 rfl (wc.heap.size + 1) 9 i1 (.string ⟨#[]⟩) 1 16 Tryd.underlying23 HIS.out.1 HIS.out.2.1 HIS.out.2.2.1 HIS.out.2.2.2 rfl (by decide) _ _ _ rfl HL.t.oA ⟨wa.heap.size, 0, none⟩ 1 1 [.string s] rfl rfl HN.out ?d2 ?d3 ?d4 ?d5 ?_
            case d2 => (intro u hu; simp at hu; subst hu; rfl)
            case d3 => unfold maxLen; omega
            case d4 => omega
            case d5 => omega
            intro v' w5 hown hgrow hat
            obtain ⟨A', ca', rfl, HT⟩ := HL.t.appA hown hgrow hat
            replace HL := HL.grow hgrow (fun k hk => (HL.t.oA.lt k hk).1) HT
            clear hown hgrow hat HT HN hHeld
            refine hK.out _ _ ?_ (fun hHeld => ?_)
            · exact (c6_cells HL.p).2.2.2.1
            clear hK K
            (first
              | (refine upto_take (i := 8) (v := ?_) rfl rfl (by kernel_rfl) (by kernel_rfl) (by kernel_rfl) (by kernel_rfl) (fun _ _ _ h => h) (Or.inl ⟨rfl, ?_⟩) (by assumption) ?_; rotate_left; (intro X hSw; (try dsimp only at hSw); (go_simp <;> with_reducible rfl)))
              | (refine upto_take (i := 8) (v := undef) rfl rfl (by kernel_rfl) (by kernel_rfl) (by kernel_rfl) (by kernel_rfl) (fun _ _ _ h => h) (Or.inr ⟨rfl, rfl⟩) (by assumption) ?_)); simp only [Act.put, List.setIfInBounds_toArray, List.set_cons_zero, List.set_cons_succ]
            refine upto_last (by kernel_rfl) rfl (by kernel_rfl) (fun K hK => ?_)
            have c3 := (c6_cells HL.p).2.2.2.1
            have f3 := HL.p.frozen 3
            have pl := HL.lt
            go_simp
            refine hK.out _ _ ?_
            clear hK K hHeld
            replace HL := HL.set 3 (.slice A' (ns ++ [s]).length ca')
            have HNS2 : Hid (∀ x ∈ ns ++ [s], x.size ≤ 10) := fun x hx => by
              rcases List.mem_append.1 hx with h | h
              · exact HNS.out x h
              · simp at h; subst h; exact hs10
            have hnl2 : (ns ++ [s]).length = ns.length + 1 := by simp
            rw [← hnl2]
            have HNL2 := Lib.hid hnl2
            clear hnl2
            clear c3 f3 pl HNS
            generalize ns ++ [s] = ns2 at *
            generalize w5.setCell ⟨wc.heap.size, 3, none⟩ (.slice A' ns2.length ca') = w6 at *
            have c4 := (c6_cells HL.p).2.2.2.2.1
            go_wp2
            refine wp_region_upto (S := (fun X => X.cell? ⟨wc.heap.size, 4, none⟩ = some (.slice M ms.length ma))) (z := 8) (by kernel_rfl) ?_ (fun hHeld => ?_)
            · exact c4
            clear c4
            (first
              | (refine upto_take (i := 0) (v := ?_) rfl rfl (by kernel_rfl) (by kernel_rfl) (by kernel_rfl) (by kernel_rfl) (fun _ _ _ h => h) (Or.inl ⟨rfl, ?_⟩) (by assumption) ?_; rotate_left; (intro X hSw; (try dsimp only at hSw); (go_simp <;> with_reducible rfl)))
              | (refine upto_take (i := 0) (v := undef) rfl rfl (by kernel_rfl) (by kernel_rfl) (by kernel_rfl) (by kernel_rfl) (fun _ _ _ h => h) (Or.inr ⟨rfl, rfl⟩) (by assumption) ?_)); simp only [Act.put, List.setIfInBounds_toArray, List.set_cons_zero, List.set_cons_succ]
            (first
              | (refine upto_take (i := 1) (v := ?_) rfl rfl (by kernel_rfl) (by kernel_rfl) (by kernel_rfl) (by kernel_rfl) (fun _ _ _ h => h) (Or.inl ⟨rfl, ?_⟩) (by assumption) ?_; rotate_left; (intro X hSw; (try dsimp only at hSw); (go_simp <;> with_reducible rfl)))
              | (refine upto_take (i := 1) (v := undef) rfl rfl (by kernel_rfl) (by kernel_rfl) (by kernel_rfl) (by kernel_rfl) (fun _ _ _ h => h) (Or.inr ⟨rfl, rfl⟩) (by assumption) ?_)); simp only [Act.put, List.setIfInBounds_toArray, List.set_cons_zero, List.set_cons_succ]
            (first
              | (refine upto_take (i := 2) (v := ?_) rfl rfl (by kernel_rfl) (by kernel_rfl) (by kernel_rfl) (by kernel_rfl) (fun _ _ _ h => h) (Or.inl ⟨rfl, ?_⟩) (by assumption) ?_; rotate_left; (intro X hSw; (try dsimp only at hSw); (go_simp <;> with_reducible rfl)))
              | (refine upto_take (i := 2) (v := undef) rfl rfl (by kernel_rfl) (by kernel_rfl) (by kernel_rfl) (by kernel_rfl) (fun _ _ _ h => h) (Or.inr ⟨rfl, rfl⟩) (by assumption) ?_)); simp only [Act.put, List.setIfInBounds_toArray, List.set_cons_zero, List.set_cons_succ]
            replace HL := HL.drew
            have HP := Lib.hid (pick_any B g NI 2 _ HL.rd (by have := HCI.out; have := HNI.out; omega) (by omega) (by omega))
            refine upto_ready (i := 3) (by kernel_rfl) rfl (fun K hK => ?_)
            go_simp
            go_wp2_with (go_at_call 42; refine HP.out.mono ?_; rintro e wp ⟨y, rfl, hy0, hy1, hrd6, hg6⟩)
            replace HL := HL.touch hg6 hrd6
            clear hrd6 hg6 hy1 HP hHeld
            refine hK.out _ _ ?_ (fun hHeld => ?_)
            · exact (c6_cells HL.p).2.2.2.2.1
            clear hK K
            (first
              | (refine upto_take (i := 4) (v := ?_) rfl rfl (by kernel_rfl) (by kernel_rfl) (by kernel_rfl) (by kernel_rfl) (fun _ _ _ h => h) (Or.inl ⟨rfl, ?_⟩) (by assumption) ?_; rotate_left; (intro X hSw; (try dsimp only at hSw); (go_simp <;> with_reducible rfl)))
              | (refine upto_take (i := 4) (v := undef) rfl rfl (by kernel_rfl) (by kernel_rfl) (by kernel_rfl) (by kernel_rfl) (fun _ _ _ h => h) (Or.inr ⟨rfl, rfl⟩) (by assumption) ?_)); simp only [Act.put, List.setIfInBounds_toArray, List.set_cons_zero, List.set_cons_succ]
            obtain ⟨mb, hmb⟩ : ∃ mb : Bool, (y == 0) = mb := ⟨_, rfl⟩
            simp only [hmb]
            clear hmb
            have swl : wc.heap.size < wp.heap.size := HL.lt
            refine upto_ready (i := 5) (by kernel_rfl) rfl (fun K hK => ?_)
            replace HL := HL.alloc (.cells #[.bool mb] 4)
            go_simp
            clear hHeld
            have HN := Lib.hid (cells_new wp [.bool mb] 4)
            simp only [List.toArray] at HN
            have swb : wp.heap.size + 1 = (wp.alloc (.cells #[.bool mb] 4)).heap.size := by simp
            refine hK.out _ _ ?_ (fun hHeld => ?_)
            · exact (c6_cells HL.p).2.2.2.2.1
            clear hK K
            refine upto_ready (i := 6) (by kernel_rfl) rfl (fun K hK => ?_)
            refine step_own_v (wp.alloc (.cells #[.bool mb] 4)) rfl _ _ 69 rfl (wc.heap.size + 1) 4 i2 (.bool false) 1 1 Tryd.underlying69 HIB.out.1 HIB.out.2.1 HIB.out.2.2.1 HIB.out.2.2.2 rfl (by decide) _ _ _ rfl HL.t.oM ⟨wp.heap.size, 0, none⟩ 1 1 [.bool mb] rfl rfl HN.out ?d2 ?d3 ?d4 ?d5 ?_
            case d2 => (intro u hu; simp at hu; subst hu; rfl)
            case d3 => unfold maxLen; omega
            case d4 => omega
            case d5 => omega
            intro v' w7 hown hgrow hat
            obtain ⟨M', ma', rfl, HT⟩ := HL.t.appM hown hgrow hat
            replace HL := HL.grow hgrow (fun k hk => (HL.t.oM.lt k hk).1) HT
            clear hown hgrow hat HT HN hHeld
            refine hK.out _ _ ?_ (fun hHeld => ?_)
            · exact (c6_cells HL.p).2.2.2.2.1
            clear hK K
            (first
              | (refine upto_take (i := 7) (v := ?_) rfl rfl (by kernel_rfl) (by kernel_rfl) (by kernel_rfl) (by kernel_rfl) (fun _ _ _ h => h) (Or.inl ⟨rfl, ?_⟩) (by assumption) ?_; rotate_left; (intro X hSw; (try dsimp only at hSw); (go_simp <;> with_reducible rfl)))
              | (refine upto_take (i := 7) (v := undef) rfl rfl (by kernel_rfl) (by kernel_rfl) (by kernel_rfl) (by kernel_rfl) (fun _ _ _ h => h) (Or.inr ⟨rfl, rfl⟩) (by assumption) ?_)); simp only [Act.put, List.setIfInBounds_toArray, List.set_cons_zero, List.set_cons_succ]
            refine upto_last (by kernel_rfl) rfl (by kernel_rfl) (fun K hK => ?_)
            have c4 := (c6_cells HL.p).2.2.2.2.1
            have f4 := HL.p.frozen 4
            have pl := HL.lt
            go_simp
            refine hK.out _ _ ?_
            clear hK K hHeld
            replace HL := HL.set 4 (.slice M' (ms ++ [mb]).length ma')
            have hml2 : (ms ++ [mb]).length = ms.length + 1 := by simp
            rw [← hml2]
            have HML2 := Lib.hid hml2
            clear hml2
            clear c4 f4 pl
            generalize ms ++ [mb] = ms2 at *
            generalize w7.setCell ⟨wc.heap.size, 4, none⟩ (.slice M' ms2.length ma') = w8 at *
            have c5 := (c6_cells HL.p).2.2.2.2.2
            go_wp2
            refine wp_region_upto (S := (fun X => X.cell? ⟨wc.heap.size, 5, none⟩ = some (.slice KA kids.length kc))) (z := 9) (by kernel_rfl) ?_ (fun hHeld => ?_)
            · exact c5
            clear c5
            (first
              | (refine upto_take (i := 0) (v := ?_) rfl rfl (by kernel_rfl) (by kernel_rfl) (by kernel_rfl) (by kernel_rfl) (fun _ _ _ h => h) (Or.inl ⟨rfl, ?_⟩) (by assumption) ?_; rotate_left; (intro X hSw; (try dsimp only at hSw); (go_simp <;> with_reducible rfl)))
              | (refine upto_take (i := 0) (v := undef) rfl rfl (by kernel_rfl) (by kernel_rfl) (by kernel_rfl) (by kernel_rfl) (fun _ _ _ h => h) (Or.inr ⟨rfl, rfl⟩) (by assumption) ?_)); simp only [Act.put, List.setIfInBounds_toArray, List.set_cons_zero, List.set_cons_succ]
            (first
              | (refine upto_take (i := 1) (v := ?_) rfl rfl (by kernel_rfl) (by kernel_rfl) (by kernel_rfl) (by kernel_rfl) (fun _ _ _ h => h) (Or.inl ⟨rfl, ?_⟩) (by assumption) ?_; rotate_left; (intro X hSw; (try dsimp only at hSw); (go_simp <;> with_reducible rfl)))
              | (refine upto_take (i := 1) (v := undef) rfl rfl (by kernel_rfl) (by kernel_rfl) (by kernel_rfl) (by kernel_rfl) (fun _ _ _ h => h) (Or.inr ⟨rfl, rfl⟩) (by assumption) ?_)); simp only [Act.put, List.setIfInBounds_toArray, List.set_cons_zero, List.set_cons_succ]
            (first
              | (refine upto_take (i := 2) (v := ?_) rfl rfl (by kernel_rfl) (by kernel_rfl) (by kernel_rfl) (by kernel_rfl) (fun _ _ _ h => h) (Or.inl ⟨rfl, ?_⟩) (by assumption) ?_; rotate_left; (intro X hSw; (try dsimp only at hSw); (go_simp <;> with_reducible rfl)))
              | (refine upto_take (i := 2) (v := undef) rfl rfl (by kernel_rfl) (by kernel_rfl) (by kernel_rfl) (by kernel_rfl) (fun _ _ _ h => h) (Or.inr ⟨rfl, rfl⟩) (by assumption) ?_)); simp only [Act.put, List.setIfInBounds_toArray, List.set_cons_zero, List.set_cons_succ]
            (first
              | (refine upto_take (i := 3) (v := ?_) rfl rfl (by kernel_rfl) (by kernel_rfl) (by kernel_rfl) (by kernel_rfl) (fun _ _ _ h => h) (Or.inl ⟨rfl, ?_⟩) (by assumption) ?_; rotate_left; (intro X hSw; (try dsimp only at hSw); (go_simp <;> with_reducible rfl)))
              | (refine upto_take (i := 3) (v := undef) rfl rfl (by kernel_rfl) (by kernel_rfl) (by kernel_rfl) (by kernel_rfl) (fun _ _ _ h => h) (Or.inr ⟨rfl, rfl⟩) (by assumption) ?_)); simp only [Act.put, List.setIfInBounds_toArray, List.set_cons_zero, List.set_cons_succ]
            (first
              | (refine upto_take (i := 4) (v := ?_) rfl rfl (by kernel_rfl) (by kernel_rfl) (by kernel_rfl) (by kernel_rfl) (fun _ _ _ h => h) (Or.inl ⟨rfl, ?_⟩) (by assumption) ?_; rotate_left; (intro X hSw; (try dsimp only at hSw); (go_simp <;> with_reducible rfl)))
              | (refine upto_take (i := 4) (v := undef) rfl rfl (by kernel_rfl) (by kernel_rfl) (by kernel_rfl) (by kernel_rfl) (fun _ _ _ h => h) (Or.inr ⟨rfl, rfl⟩) (by assumption) ?_)); simp only [Act.put, List.setIfInBounds_toArray, List.set_cons_zero, List.set_cons_succ]
            replace HL := HL.drew
            have HC := Lib.hid (HIH.out hd1 B g (NI + 1) _ HL.rd (by have := HL.lt; have := HL.hB; have := HL.hP; omega) (by have := HCI.out; have := HNI.out; omega))
            have hs8 : wc.heap.size < w8.drew.heap.size := HL.lt
            refine upto_ready (i := 5) (by kernel_rfl) rfl (fun K hK => ?_)
            go_simp
            go_wp2_with (go_at_call 41; refine HC.out.mono ?_; rintro e wq ⟨pk, pmn, pmx, pns, pms, pkids, pA, pM, pK, pca, pma, pkc, rfl, pT, pok, hrd8, hg8⟩)
            have HKB : Hid ((∀ b, (Value.slice KA kids.length kc).ownBlock = some b → b < w8.drew.heap.size) ∧ (∀ b, (Value.slice A' ns2.length ca').ownBlock = some b → b < w8.drew.heap.size) ∧ (∀ b, (Value.slice M' ms2.length ma').ownBlock = some b → b < w8.drew.heap.size)) :=
              ⟨fun b hb => (HL.t.ks.lt b hb).2, fun b hb => (HL.t.oA.lt b hb).2, fun b hb => (HL.t.oM.lt b hb).2⟩
            replace HL := HL.touch hg8 hrd8
            have HPC := Lib.hid (pT.toC pk pmn pmx)
            have HOK := Lib.hid pok
            have hsq := hg8.size
            clear pT pok hrd8 hg8 HC hHeld
            refine hK.out _ _ ?_ (fun hHeld => ?_)
            · exact (c6_cells HL.p).2.2.2.2.2
            clear hK K
            refine upto_ready (i := 6) (by kernel_rfl) rfl (fun K hK => ?_)
            simp only [c6]
            go_simp
            clear hHeld
            generalize hwb : wq.alloc (.cells #[.int .i64 pk, .int .i64 pmn, .int .i64 pmx, .slice pA pns.length pca, .slice pM pms.length pma, .slice pK pkids.length pkc] 72) = wb
            replace HL : ScCS w1 B g (NI + 1 + costS d) wc.heap.size (wc.heap.size + 1) (c6 j 0 0 A' ns2.length ca' M' ms2.length ma' KA kids.length kc) ns2 ms2 kids A' M' KA ca' ma' kc wb := by
              rw [← hwb]; exact HL.alloc _
            have HPW : Hid (ScC wb (fun b => wc.heap.size + 1 ≤ b ∧ (Value.slice KA kids.length kc).ownBlock ≠ some b ∧ (Value.slice A' ns2.length ca').ownBlock ≠ some b ∧ (Value.slice M' ms2.length ma').ownBlock ≠ some b) (c6 pk pmn pmx pA pns.length pca pM pms.length pma pK pkids.length pkc) (.mk pk pmn pmx pns pms pkids)) := by
              rw [← hwb]
              exact HPC.out.mv' fun b hb hl => ⟨Below.heap_alloc wq _ b hl, by omega, fun e => by have := HKB.out.1 b e; omega, fun e => by have := HKB.out.2.1 b e; omega, fun e => by have := HKB.out.2.2 b e; omega⟩
            have HN : Hid (∀ j u, (c6 pk pmn pmx pA pns.length pca pM pms.length pma pK pkids.length pkc)[j]? = some u → wb.cell? ((⟨wq.heap.size, 0, none⟩ : Addr).add j) = some u) := by
              rw [← hwb]; exact cells_new wq (c6 pk pmn pmx pA pns.length pca pM pms.length pma pK pkids.length pkc) 72
            have swb : wq.heap.size + 1 = wb.heap.size := by rw [← hwb]; simp
            have swl : wc.heap.size < wq.heap.size := by omega
            have HON := Lib.hid HPC.out.ones
            clear HPC hwb
            refine hK.out _ _ ?_ (fun hHeld => ?_)
            · exact (c6_cells HL.p).2.2.2.2.2
            clear hK K
            obtain ⟨css, hrw, hkw⟩ := HL.t.ks
            refine upto_ready (i := 7) (by kernel_rfl) rfl (fun K hK => ?_)
            refine step_own_v wb rfl _ _ 70 rfl (wc.heap.size + 1) 72 i0 (.agg #[.int .i64 0, .int .i64 0, .int .i64 0, .slice none 0 0, .slice none 0 0, .slice none 0 0]) 6 96 Tryd.underlying70 HI.out.1 HI.out.2.1 HI.out.2.2.1 HI.out.2.2.2 rfl (by decide) _ _ _ rfl hrw ⟨wq.heap.size, 0, none⟩ 1 1 (c6 pk pmn pmx pA pns.length pca pM pms.length pma pK pkids.length pkc) rfl rfl HN.out HON.out ?d3 ?d4 ?d5 ?_
            case d3 => unfold maxLen; omega
            case d4 => omega
            case d5 => omega
            intro v' w9 hown hgrow hat
            obtain ⟨K', kc', rfl, HT⟩ := HL.t.appK hrw hkw HPW.out hown hgrow hat
            replace HL := HL.grow hgrow (fun k hk => (hrw.lt k hk).1) HT
            clear hown hgrow hat HT HN hHeld
            refine hK.out _ _ ?_ (fun hHeld => ?_)
            · exact (c6_cells HL.p).2.2.2.2.2
            clear hK K
            (first
              | (refine upto_take (i := 8) (v := ?_) rfl rfl (by kernel_rfl) (by kernel_rfl) (by kernel_rfl) (by kernel_rfl) (fun _ _ _ h => h) (Or.inl ⟨rfl, ?_⟩) (by assumption) ?_; rotate_left; (intro X hSw; (try dsimp only at hSw); (go_simp <;> with_reducible rfl)))
              | (refine upto_take (i := 8) (v := undef) rfl rfl (by kernel_rfl) (by kernel_rfl) (by kernel_rfl) (by kernel_rfl) (fun _ _ _ h => h) (Or.inr ⟨rfl, rfl⟩) (by assumption) ?_)); simp only [Act.put, List.setIfInBounds_toArray, List.set_cons_zero, List.set_cons_succ]
            refine upto_last (by kernel_rfl) rfl (by kernel_rfl) (fun K hK => ?_)
            have c5 := (c6_cells HL.p).2.2.2.2.2
            have f5 := HL.p.frozen 5
            have pl := HL.lt
            go_simp
            refine hK.out _ _ ?_
            clear hK K hHeld
            replace HL := HL.set 5 (.slice K' (kids ++ [Sc.mk pk pmn pmx pns pms pkids]).length kc')
            have hkl2 : (kids ++ [Sc.mk pk pmn pmx pns pms pkids]).length = kids.length + 1 := by simp
            rw [← hkl2]
            have HKS2 : Hid (∀ p ∈ kids ++ [Sc.mk pk pmn pmx pns pms pkids], ScOk d p) := fun p hp => by
              rcases List.mem_append.1 hp with h | h
              · exact HKS.out p h
              · simp at h; subst h; exact HOK.out
            have HKL2 := Lib.hid hkl2
            clear c5 f5 pl HKS hkl2
            generalize kids ++ [Sc.mk pk pmn pmx pns pms pkids] = kids2 at *
            generalize w9.setCell ⟨wc.heap.size, 5, none⟩ (.slice K' kids2.length kc') = wz at *
            go_wp2
            go_roundw
            case rel => exact ⟨i - 1, ns2, ms2, kids2, A', M', K', ca', ma', kc', by go_num, by omega, by have := HNL2.out; omega, by have := HNL2.out; have := HML2.out; have := HML.out.1; omega, by have := HNL2.out; have := HKL2.out; have := HML.out.2; omega, HNS2, HKS2, HL.mono (by have := HCI.out.2; have := HNI.out; omega)⟩
            case measure => simp [intOf]; omega
          · have hi2 : ¬ (0 : Int) < (i : Int) := by omega
            go_wp2_with fail
            go_meet
            have jj := J6.out
            exact ⟨_, 0, 0, ns, ms, kids, A, M, KA, ca, ma, kc, by show _ ≤ _; rw [costS_succ]; have h1 : (3 - i) * (1 + costS d) ≤ 3 * (1 + costS d) := Nat.mul_le_mul_right _ (by omega); omega, .mk d j 0 0 ns ms kids hj1 hj8 (by omega) (by omega) (by omega) (by omega) (by omega) (fun _ => ⟨hml, hkl⟩) (by omega) (by omega) (by omega) HNS.out (by omega) HKS.out, HL⟩
      have q6 : (j == 6) = false := by simp [j6]
      by_cases j7 : j = 7
      · have q7 : (j == 7) = true := by simp [j7]
        have J7 := Lib.hid j7
        have hd1 : 1 ≤ d := by
          rcases Nat.eq_zero_or_pos d with h | h
          · exact absurd ⟨by omega, by omega⟩ (hj57 h)
          · exact h
        clear j4 j5 j6 j7 hj57
        have HC := Lib.hid (HIH.out hd1 B g (N + 2) w3 HL.rd (by have := HL.lt; have := HL.hB; have := HL.hP; omega) (by omega))
        have hsw4 := HL.lt
        go_wp2_with fail
        refine HC.out.mono ?_
        rintro e w4 ⟨pk, pmn, pmx, pns, pms, pkids, pA, pM, pK, pca, pma, pkc, rfl, pT, pok, hrd8, hg8⟩
        replace HL := HL.touch hg8 hrd8
        have HPC := Lib.hid (pT.toC pk pmn pmx)
        have HOK := Lib.hid pok
        have hs4 := hg8.size
        clear pT pok hrd8 hg8 HC
        have HC := Lib.hid (HIH.out hd1 B g (N + 2 + costS d) w4 HL.rd (by have := HL.lt; have := HL.hB; have := HL.hP; omega) (by omega))
        have hsw5 := HL.lt
        go_wp2_with fail
        refine HC.out.mono ?_
        rintro e w5 ⟨qk, qmn, qmx, qns, qms, qkids, qA, qM, qK, qca, qma, qkc, rfl, qT, qok, hrd8, hg8⟩
        replace HL := HL.touch hg8 hrd8
        have hg50 := HL.g_lt
        have HTK := Lib.hid (ScCT.ofTwo (s := wc.heap.size + 1) (HPC.out.mv' fun b hb hl => ⟨hg8.block b hl (fun e => by injection e with e; have := HL.hP; omega), by omega⟩) ((qT.toC qk qmn qmx).mono fun b hb _ => by omega) (by have := HL.lt; omega))
        have HOK2 := Lib.hid qok
        replace HL := HL.grow (grown_alloc w5 (.cells (c6 pk pmn pmx pA pns.length pca pM pms.length pma pK pkids.length pkc ++ c6 qk qmn qmx qA qns.length qca qM qms.length qma qK qkids.length qkc).toArray 72)) (fun k hk => by cases hk) HTK.out
        clear qT qok hrd8 hg8 HC HTK HPC
        have c5 := (c6_cells HL.p).2.2.2.2.2
        have f5 := HL.p.frozen 5
        have pl := HL.lt
        simp only [World.size_alloc] at pl
        have HL9 := Lib.hid (HL.set 5 (.slice (some ⟨w5.heap.size, 0, none⟩) 2 2))
        simp only [c6, List.cons_append, List.nil_append] at c5 f5 HL9 ⊢
        go_wp2_with fail
        go_meet
        have jj := J7.out
        exact ⟨_, 0, 0, [], [], [_, _], none, none, _, 0, 0, 2, by show _ ≤ _; rw [costS_succ]; omega, .mk d j 0 0 [] [] [_, _] hj1 hj8 (by omega) (by omega) (by omega) (by omega) (by omega) (by omega) (by simp) (by omega) (by simp) (by simp) (by simp) (by simpa using ⟨HOK.out, HOK2.out⟩), HL9.out⟩
      have q7 : (j == 7) = false := by simp [j7]
      by_cases j8 : j = 8
      · have q8 : (j == 8) = true := by simp [j8]
        have J8 := Lib.hid j8
        clear j4 j5 j6 j7 j8 hj57
        obtain ⟨wa, hwa⟩ : ∃ wa, w3.alloc (.cells #[.string ⟨#[121, 101, 115]⟩, .string ⟨#[110, 111]⟩] 9) = wa := ⟨_, rfl⟩
        obtain ⟨wb, hwb⟩ : ∃ wb, wa.alloc (.cells #[.string ⟨#[97, 98]⟩, .string ⟨#[97, 98, 99]⟩, .string ⟨#[]⟩] 9) = wb := ⟨_, rfl⟩
        obtain ⟨wx, hwx⟩ : ∃ wx, wb.alloc (.cells #[.string ⟨#[120]⟩] 9) = wx := ⟨_, rfl⟩
        obtain ⟨wd, hwd⟩ : ∃ wd, wx.alloc (.cells #[.slice (some ⟨w3.heap.size, 0, none⟩) 2 2, .slice (some ⟨wa.heap.size, 0, none⟩) 3 3, .slice (some ⟨wb.heap.size, 0, none⟩) 1 1] 23) = wd := ⟨_, rfl⟩
        have hl3 := HL.lt
        have sa : wa.heap.size = w3.heap.size + 1 := by rw [← hwa]; simp
        have sb : wb.heap.size = w3.heap.size + 2 := by rw [← hwb, World.size_alloc, sa]
        have sx : wx.heap.size = w3.heap.size + 3 := by rw [← hwx, World.size_alloc, sb]
        have sd : wd.heap.size = w3.heap.size + 4 := by rw [← hwd, World.size_alloc, sx]
        have ha : wd.ownsRow (wc.heap.size + 1) 9 1 (.slice (some ⟨w3.heap.size, 0, none⟩) 2 2) 2 (strs [⟨#[121, 101, 115]⟩, ⟨#[110, 111]⟩]) := by
          rw [← hwd, ← hwx, ← hwb, ← hwa]
          exact own_keep (own_keep (own_keep (own_new w3 9 1 _ 2 (strs [⟨#[121, 101, 115]⟩, ⟨#[110, 111]⟩]) (by omega) rfl (by decide)) (below_box _)) (below_box _)) (below_box _)
        have hb : wd.ownsRow (wc.heap.size + 1) 9 1 (.slice (some ⟨wa.heap.size, 0, none⟩) 3 3) 3 (strs [⟨#[97, 98]⟩, ⟨#[97, 98, 99]⟩, ⟨#[]⟩]) := by
          rw [← hwd, ← hwx, ← hwb]
          exact own_keep (own_keep (own_new wa 9 1 _ 3 (strs [⟨#[97, 98]⟩, ⟨#[97, 98, 99]⟩, ⟨#[]⟩]) (by omega) rfl (by decide)) (below_box _)) (below_box _)
        have hx : wd.ownsRow (wc.heap.size + 1) 9 1 (.slice (some ⟨wb.heap.size, 0, none⟩) 1 1) 1 (strs [⟨#[120]⟩]) := by
          rw [← hwd, ← hwx]
          exact own_keep (own_new wb 9 1 _ 1 (strs [⟨#[120]⟩]) (by omega) rfl (by decide)) (below_box _)
        have hd : Own wd wx.heap.size 23 [.slice (some ⟨w3.heap.size, 0, none⟩) 2 2, .slice (some ⟨wa.heap.size, 0, none⟩) 3 3, .slice (some ⟨wb.heap.size, 0, none⟩) 1 1] := by rw [← hwd]; exact Own.new wx 23 #[.slice (some ⟨w3.heap.size, 0, none⟩) 2 2, .slice (some ⟨wa.heap.size, 0, none⟩) 3 3, .slice (some ⟨wb.heap.size, 0, none⟩) 1 1]
        replace HL : ScCS w1 B g (N + 2) wc.heap.size (wc.heap.size + 1) (c6 j 0 0 none 0 0 none 0 0 none 0 0) [] [] [] none none none 0 0 0 wd := by
          rw [← hwd, ← hwx, ← hwb, ← hwa]
          exact (((HL.alloc _).alloc _).alloc _).alloc _
        have HA := Lib.hid (And.intro ha (And.intro hb hx))
        have HD := Lib.hid hd
        have HWA := Lib.hid hwa
        have HWB := Lib.hid hwb
        have HWX := Lib.hid hwx
        have HWD := Lib.hid hwd
        clear ha hb hx hd hwa hwb hwx hwd
        go_wp2_with fail
        rw [show w3.heap.size + 1 = wa.heap.size from sa.symm, show wa.heap.size + 1 = wb.heap.size by omega, show wb.heap.size + 1 = wx.heap.size by omega, HWA.out, HWB.out, HWX.out, HWD.out]
        refine (pick_any B g (N + 2) 3 wd HL.rd (by omega) (by omega) (by omega)).mono ?_
        rintro e we ⟨x, rfl, hx0, hx1, hrd5, hg5⟩
        have hg50 := HL.g_lt
        have hg51 := HL.hP
        have HA5 : Hid (we.ownsRow (wc.heap.size + 1) 9 1 (.slice (some ⟨w3.heap.size, 0, none⟩) 2 2) 2 (strs [⟨#[121, 101, 115]⟩, ⟨#[110, 111]⟩]) ∧ we.ownsRow (wc.heap.size + 1) 9 1 (.slice (some ⟨wa.heap.size, 0, none⟩) 3 3) 3 (strs [⟨#[97, 98]⟩, ⟨#[97, 98, 99]⟩, ⟨#[]⟩]) ∧ we.ownsRow (wc.heap.size + 1) 9 1 (.slice (some ⟨wb.heap.size, 0, none⟩) 1 1) 1 (strs [⟨#[120]⟩])) :=
          ⟨own_same HA.out.1 fun b hb => hg5.block b (HA.out.1.lt b hb).2 (fun e => by injection e with e; have := (HA.out.1.lt b hb).1; omega), own_same HA.out.2.1 fun b hb => hg5.block b (HA.out.2.1.lt b hb).2 (fun e => by injection e with e; have := (HA.out.2.1.lt b hb).1; omega), own_same HA.out.2.2 fun b hb => hg5.block b (HA.out.2.2.lt b hb).2 (fun e => by injection e with e; have := (HA.out.2.2.lt b hb).1; omega)⟩
        have hd5 := own_touch HD.out hg5 (by omega)
        replace HL := HL.touch hg5 hrd5
        have d0 : we.cell? ⟨wx.heap.size, 0, none⟩ = some (.slice (some ⟨w3.heap.size, 0, none⟩) 2 2) := by rw [hd5.cell]; rfl
        have d1 : we.cell? ⟨wx.heap.size, 1, none⟩ = some (.slice (some ⟨wa.heap.size, 0, none⟩) 3 3) := by rw [hd5.cell]; rfl
        have d2 : we.cell? ⟨wx.heap.size, 2, none⟩ = some (.slice (some ⟨wb.heap.size, 0, none⟩) 1 1) := by rw [hd5.cell]; rfl
        rw [sx] at d0 d1 d2
        have c3 := (c6_cells HL.p).2.2.2.1
        have f3 := HL.p.frozen 3
        have pl := HL.lt
        clear hrd5 hg5 hd5 HA HD HWA HWB HWX HWD
        have hx2 : x = 0 ∨ x = 1 ∨ x = 2 := by rcases hx1 with h | h <;> omega
        clear hx0 hx1
        rcases hx2 with rfl | rfl | rfl
        · have HL9 := Lib.hid ((HL.grow (row := none) (only_of_below (Below.refl _ _) (Nat.le_refl _) _) (fun k hk => by cases hk) (show ScCT we (wc.heap.size + 1) [⟨#[121, 101, 115]⟩, ⟨#[110, 111]⟩] [] [] (some ⟨w3.heap.size, 0, none⟩) none none 2 0 0 from ⟨HA5.out.1, by simpa [strs, bols] using World.ownsRow_nil _ _ 4 1, ScCs.nil _ _ _⟩)).set 3 (.slice (some ⟨w3.heap.size, 0, none⟩) 2 2))
          go_wp2_with fail
          go_meet
          have jj := J8.out
          exact ⟨_, 0, 0, [⟨#[121, 101, 115]⟩, ⟨#[110, 111]⟩], [], [], some ⟨w3.heap.size, 0, none⟩, none, none, 2, 0, 0, by show _ ≤ _; rw [costS_succ]; omega, .mk d j 0 0 _ [] [] hj1 hj8 (by omega) (by omega) (by omega) (by omega) (by omega) (by omega) (by omega) (fun _ => by decide) (by decide) (by decide) (by decide) (by simp), HL9.out⟩
        · have HL9 := Lib.hid ((HL.grow (row := none) (only_of_below (Below.refl _ _) (Nat.le_refl _) _) (fun k hk => by cases hk) (show ScCT we (wc.heap.size + 1) [⟨#[97, 98]⟩, ⟨#[97, 98, 99]⟩, ⟨#[]⟩] [] [] (some ⟨wa.heap.size, 0, none⟩) none none 3 0 0 from ⟨HA5.out.2.1, by simpa [strs, bols] using World.ownsRow_nil _ _ 4 1, ScCs.nil _ _ _⟩)).set 3 (.slice (some ⟨wa.heap.size, 0, none⟩) 3 3))
          rw [sa] at HL9
          go_wp2_with fail
          go_meet
          have jj := J8.out
          exact ⟨_, 0, 0, [⟨#[97, 98]⟩, ⟨#[97, 98, 99]⟩, ⟨#[]⟩], [], [], some ⟨w3.heap.size + 1, 0, none⟩, none, none, 3, 0, 0, by show _ ≤ _; rw [costS_succ]; omega, .mk d j 0 0 _ [] [] hj1 hj8 (by omega) (by omega) (by omega) (by omega) (by omega) (by omega) (by omega) (fun _ => by decide) (by decide) (by decide) (by decide) (by simp), HL9.out⟩
        · have HL9 := Lib.hid ((HL.grow (row := none) (only_of_below (Below.refl _ _) (Nat.le_refl _) _) (fun k hk => by cases hk) (show ScCT we (wc.heap.size + 1) [⟨#[120]⟩] [] [] (some ⟨wb.heap.size, 0, none⟩) none none 1 0 0 from ⟨HA5.out.2.2, by simpa [strs, bols] using World.ownsRow_nil _ _ 4 1, ScCs.nil _ _ _⟩)).set 3 (.slice (some ⟨wb.heap.size, 0, none⟩) 1 1))
          rw [sb] at HL9
          go_wp2_with fail
          go_meet
          have jj := J8.out
          exact ⟨_, 0, 0, [⟨#[120]⟩], [], [], some ⟨w3.heap.size + 2, 0, none⟩, none, none, 1, 0, 0, by show _ ≤ _; rw [costS_succ]; omega, .mk d j 0 0 _ [] [] hj1 hj8 (by omega) (by omega) (by omega) (by omega) (by omega) (by omega) (by omega) (fun _ => by decide) (by decide) (by decide) (by decide) (by simp), HL9.out⟩
      have q8 : (j == 8) = false := by simp [j8]
      go_wp2_with fail
      go_meet
      exact ⟨_, 0, 0, [], [], [], none, none, none, 0, 0, 0, by show _ ≤ _; rw [costS_succ]; omega, .mk d j 0 0 [] [] [] hj1 hj8 (by omega) (by omega) (by omega) (by omega) (by omega) (by omega) (by omega) (by omega) (by simp) (by simp) (by simp) (by simp), HL⟩
    case rest =>
      obtain ⟨N', mn, mx, ns, ms, kids, A, M, K, ca, ma, kc, HN', HOK, HL⟩ := hcut
      have HLo := HL.out
      rw [HPN.out] at HLo
      clear HL
      have HL := Lib.hid HLo
      clear HLo
      rw [HPN.out]
      have hr : Own wc w.heap.size 72 (c6 0 0 0 none 0 0 none 0 0 none 0 0) := own_touch HR1.out HL.out.fr (by omega)
      obtain ⟨p0, p1, p2, p3, p4, p5⟩ := c6_cells HL.out.p
      obtain ⟨r0, r1, r2, r3, r4, r5⟩ := c6_cells hr
      have f0 := hr.frozen 0
      have f1 := hr.frozen 1
      have f2 := hr.frozen 2
      have f3 := hr.frozen 3
      have f4 := hr.frozen 4
      have f5 := hr.frozen 5
      have rl := hr.lt
      have pl := HL.out.lt
      have HRR := Lib.hid hr
      clear hr
      go_wp2
      obtain ⟨q0, q1, q2, q3, q4, q5⟩ := c6_cells (k := j) (mn := mn) (mx := mx) (A := A) (M := M) (K := K) ((((((HRR.out.set_ 0 (.int .i64 j)).set_ 1 (.int .i64 mn)).set_ 2 (.int .i64 mx)).set_ 3 (.slice A ns.length ca)).set_ 4 (.slice M ms.length ma)).set_ 5 (.slice K kids.length kc))
      have hP1 := HL.out.hP
      have hP2 := HL.out.hs
      have hPB := HL.out.hB
      exact bodyPost_ret (v := .agg (c6 j mn mx A ns.length ca M ms.length ma K kids.length kc).toArray) (by simp [results, Tryd.results41, go_sem, q0, q1, q2, q3, q4, q5, c6]) rfl
        ⟨j, mn, mx, ns, ms, kids, A, M, K, ca, ma, kc, rfl, (HL.out.t.keep fun b hb _ => six_other _ _ _ _ _ _ b (by omega)).low (by omega), HOK.out, (HL.out.rd.keep fun b hb => six_other _ _ _ _ _ _ b (by omega)).mono (Nat.le_refl _) HN'.out, six_grown (only_trans HG1.out HL.out.fr) (Nat.le_refl _) _ _ _ _ _ _⟩

/-- A schema of each depth that is drawn. -/
theorem schema_all : ∀ d, 1 ≤ d → d ≤ 4 → ScD d
  | 0, h, _ => absurd h (by omega)
  | d + 1, _, h => schema_step (fun h1 => schema_all d h1 (by omega)) (by omega)

end Go.Proofs.YtmmafhibojipjaaDoor
