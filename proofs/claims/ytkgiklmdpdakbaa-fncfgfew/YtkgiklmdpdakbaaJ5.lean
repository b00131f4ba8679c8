/- A list repeated: slices.Repeat of one number. -/
import Derived.Test.YtkgiklmdpdakbaaK10
import Derived.Laws.CopyOwn
import Derived.Lib.SliceRun
namespace Go.Proofs.Ytkgiklmdpdakbaa
open Go.RowKit
set_option linter.unusedVariables false

theorem and_small : ∀ n : Fin 201, bits BinOp.and IntKind.u64 (n.val : Int) 4294967295 = n.val := by decide +kernel
theorem wrap_small : ∀ n : Fin 201, IntKind.u64.wrap (n.val : Int) = n.val := by decide +kernel
theorem wrap_smallI : ∀ n : Fin 201, IntKind.i64.wrap (n.val : Int) = n.val := by decide +kernel

set_option maxRecDepth 100000 in
set_option maxHeartbeats 1000000 in
theorem mul64_any (n : Nat) (w : World) (hn : n ≤ 200) :
    Calls Try.prog 75 #[.int .u64 1, .int .u64 (n : Int)] w fun e w' => e = .returned (.tuple #[.int .u64 0, .int .u64 (n : Int)]) ∧ w = w' := by
  have h1 : bits BinOp.and IntKind.u64 1 4294967295 = 1 := and_small ⟨1, by omega⟩
  have h0 : bits BinOp.and IntKind.u64 0 4294967295 = 0 := and_small ⟨0, by omega⟩
  have h2 : bits BinOp.and IntKind.u64 (n : Int) 4294967295 = n := and_small ⟨n, by omega⟩
  have h3 : (n : Int) / 4294967296 = 0 := by omega
  have h4 : IntKind.u64.wrap (n : Int) = n := wrap_small ⟨n, by omega⟩
  have h5 : IntKind.u64.wrap 0 = 0 := wrap_small ⟨0, by omega⟩
  go_enter Try.func75, Try.ntmps75
  go_wp2
  go_ret2
  exact ⟨rfl, rfl⟩

set_option maxRecDepth 100000 in
set_option maxHeartbeats 1000000 in
theorem mul_any (n : Nat) (w : World) (hn : n ≤ 200) :
    Calls Try.prog 57 #[.int .u64 1, .int .u64 (n : Int)] w fun e w' => e = .returned (.tuple #[.int .u64 0, .int .u64 (n : Int)]) ∧ w = w' := by
  have h4 : IntKind.u64.wrap (n : Int) = n := wrap_small ⟨n, by omega⟩
  go_enter Try.func57, Try.ntmps57
  go_wp2_with fail
  refine (mul64_any n _ hn).mono ?_
  rintro e w1 ⟨rfl, rfl⟩
  go_wp2
  go_ret2
  exact ⟨rfl, rfl⟩

/-- So many of one, and so many of another behind. -/
def two (x z : Value) (k m : Nat) : List Value := List.replicate k x ++ List.replicate m z
theorem two_len (x z : Value) (k m : Nat) : (two x z k m).length = k + m := by simp [two]
theorem two_splice (x z : Value) (k m c : Nat) (h : c ≤ m) : splice (two x z k m) k (List.replicate c x) = two x z (k + c) (m - c) := by
  unfold splice two
  rw [List.take_left' (by simp), List.length_replicate, List.drop_append, List.length_replicate]
  simp only [List.drop_replicate, Nat.add_sub_cancel_left]
  rw [show k - (k + c) = 0 by omega, List.replicate_zero, List.nil_append, ← List.append_assoc, List.replicate_append_replicate]
theorem two_get (x z : Value) (k m j : Nat) (h : j < k) : (two x z k m)[j]? = some x := by
  unfold two
  rw [List.getElem?_append_left (by simpa using h), List.getElem?_replicate, if_pos h]

def RepPost (n : Nat) (x : Int) (w : World) (e : Ending) (w' : World) : Prop :=
  ∃ g, e = .returned (.slice (some ⟨g, 0, none⟩) n n) ∧ w.heap.size ≤ g ∧ Own w' g 3 (List.replicate n (.int .i64 x)) ∧ Below w.heap.size w w'

theorem size3 : (Try.prog.info? 3).map (·.size) = some 1 := by kernel_rfl

set_option maxRecDepth 100000 in
set_option maxHeartbeats 2000000 in
theorem repeat_any (n xb : Nat) (x : Int) (w : World) (hx : w.cell? ⟨xb, 0, none⟩ = some (.int .i64 x)) (h1 : 1 ≤ n) (h2 : n ≤ 200) :
    Calls Try.prog 39 #[.slice (some ⟨xb, 0, none⟩) 1 1, .int .i64 (n : Int)] w (RepPost n x w) := by
  have h4 : IntKind.u64.wrap (n : Int) = n := wrap_small ⟨n, by omega⟩
  have h5 : IntKind.u64.wrap 1 = 1 := wrap_small ⟨1, by omega⟩
  have h6 : IntKind.i64.wrap (n : Int) = n := wrap_smallI ⟨n, by omega⟩
  have hmk := run_make_row' (P := Try.prog) 41 3 (.int .i64 0) 8 Try.underlying41 info3 rfl .i64 .i64 n (by omega) (by omega)
  have hn0 : ¬ (n : Int) < 0 := by omega
  go_enter Try.func39, Try.ntmps39
  go_wp2_with fail
  refine (mul_any n _ h2).mono ?_
  rintro e w1 ⟨rfl, rfl⟩
  have hO : Own (w.alloc (.cells (madeCells #[.int .i64 0] n) 3)) w.heap.size 3 (two (.int .i64 x) (.int .i64 0) 0 n) := by
    have := Own.made w 3 (.int .i64 0) n
    simpa [two] using this
  have hb : Below w.heap.size w (w.alloc (.cells (madeCells #[.int .i64 0] n) 3)) := below_box _
  have hx' := cell_keep hb hx
  have HO := Lib.hid hO
  have HB := Lib.hid hb
  clear hO hb
  have hnw : (n : Int) ≤ 9223372036854775807 := by omega
  go_wp2_with ((with_reducible show wpList _ _ _ (⟨some 33, _, _, _, _, _⟩ :: _) _ _); refine wpList_copy_splice rfl (.tmp 31) (.tmp 32) 41 41 rfl 3 Try.underlying41 size3 _ _ _ _ _ _ rfl rfl w.heap.size 0 (two (.int .i64 x) (.int .i64 0) 0 n) 3 HO.out (List.replicate 1 (.int .i64 x)) ?c1 ?c2 ?c3 ?c4 w.heap.size w HB.out (Nat.le_refl _) ?_)
  case c1 => rw [List.length_replicate]; exact (Nat.min_eq_left (by omega)).symm
  case c2 =>
    intro j v hj
    have : j = 0 := by
      rcases Nat.lt_or_ge j 1 with h | h
      · omega
      · rw [List.getElem?_eq_none (by simpa using h)] at hj
        cases hj
    subst this
    simp at hj
    subst hj
    exact hx'
  case c3 => rw [two_len]; simp; omega
  case c4 => intro v hv; simp at hv; subst hv; rfl
  · intro w2 HG2 hb2
    have hO2 : Hid (Own w2 w.heap.size 3 (two (.int .i64 x) (.int .i64 0) 1 (n - 1))) := by
      have h := HG2.out
      rw [show ([.int .i64 x] : List Value) = List.replicate 1 (.int .i64 x) from rfl, two_splice _ _ _ _ _ (by omega)] at h
      exact h
    clear HG2 HO HB hx hx' hmk
    go_wp2
    go_loopw [8] (fun i wr => ∃ k : Nat, 1 ≤ k ∧ k ≤ n ∧ i = .int .i64 k ∧ Hid (Own wr w.heap.size 3 (two (.int .i64 x) (.int .i64 0) k (n - k))) ∧ Below w.heap.size w wr) (fun i _ => n - (intOf i).toNat)
    case atStart => exact ⟨1, by omega, by omega, rfl, hO2, hb2⟩
    case round =>
      clear hO2 hb2
      obtain ⟨k, hk1, hk2, rfl, hO2, hb2⟩ := hrel
      by_cases hlt : k < n
      · have hlt' : (k : Int) < (n : Int) := by omega
        obtain ⟨c, hc⟩ : ∃ c, c = Nat.min k (n - k) := ⟨_, rfl⟩
        have hc1 : 1 ≤ c := by rw [hc]; exact Nat.le_min.2 ⟨by omega, by omega⟩
        have hc2 : c ≤ k := by rw [hc]; exact Nat.min_le_left _ _
        have hc3 : c ≤ n - k := by rw [hc]; exact Nat.min_le_right _ _
        have HC := Lib.hid hc
        have hwkc : IntKind.i64.wrap ((k : Int) + (c : Int)) = (k : Int) + (c : Int) := IntWalk.i64_in _ (by omega)
        clear hc
        go_wp2_with fail
        have hkn : k ≤ n := by omega
        have hkne : k ≠ n := by omega
        refine wp_region_held_drew (S := fun _ => True) (by kernel_rfl) trivial (fun hHeld => ?_)
        (first
          | (refine held_take (i := 0) (v := ?_) rfl (by kernel_rfl) (by kernel_rfl) (by kernel_rfl) (fun _ _ _ h => h) (Or.inl ⟨rfl, ?_⟩) (by assumption) ?_; rotate_left; (intro X hSw; (try dsimp only at hSw); (go_simp <;> with_reducible rfl)))
          | (refine held_take (i := 0) (v := undef) rfl (by kernel_rfl) (by kernel_rfl) (by kernel_rfl) (fun _ _ _ h => h) (Or.inr ⟨rfl, rfl⟩) (by assumption) ?_)); simp only [Act.put, List.setIfInBounds_toArray, List.set_cons_zero, List.set_cons_succ]
        (first
          | (refine held_take (i := 1) (v := ?_) rfl (by kernel_rfl) (by kernel_rfl) (by kernel_rfl) (fun _ _ _ h => h) (Or.inl ⟨rfl, ?_⟩) (by assumption) ?_; rotate_left; (intro X hSw; (try dsimp only at hSw); (go_simp <;> with_reducible rfl)))
          | (refine held_take (i := 1) (v := undef) rfl (by kernel_rfl) (by kernel_rfl) (by kernel_rfl) (fun _ _ _ h => h) (Or.inr ⟨rfl, rfl⟩) (by assumption) ?_)); simp only [Act.put, List.setIfInBounds_toArray, List.set_cons_zero, List.set_cons_succ]
        (first
          | (refine held_take (i := 2) (v := ?_) rfl (by kernel_rfl) (by kernel_rfl) (by kernel_rfl) (fun _ _ _ h => h) (Or.inl ⟨rfl, ?_⟩) (by assumption) ?_; rotate_left; (intro X hSw; (try dsimp only at hSw); (go_simp <;> with_reducible rfl)))
          | (refine held_take (i := 2) (v := undef) rfl (by kernel_rfl) (by kernel_rfl) (by kernel_rfl) (fun _ _ _ h => h) (Or.inr ⟨rfl, rfl⟩) (by assumption) ?_)); simp only [Act.put, List.setIfInBounds_toArray, List.set_cons_zero, List.set_cons_succ]
        (first
          | (refine held_take (i := 3) (v := ?_) rfl (by kernel_rfl) (by kernel_rfl) (by kernel_rfl) (fun _ _ _ h => h) (Or.inl ⟨rfl, ?_⟩) (by assumption) ?_; rotate_left; (intro X hSw; (try dsimp only at hSw); (go_simp <;> with_reducible rfl)))
          | (refine held_take (i := 3) (v := undef) rfl (by kernel_rfl) (by kernel_rfl) (by kernel_rfl) (fun _ _ _ h => h) (Or.inr ⟨rfl, rfl⟩) (by assumption) ?_)); simp only [Act.put, List.setIfInBounds_toArray, List.set_cons_zero, List.set_cons_succ]
        (first
          | (refine held_take (i := 4) (v := ?_) rfl (by kernel_rfl) (by kernel_rfl) (by kernel_rfl) (fun _ _ _ h => h) (Or.inl ⟨rfl, ?_⟩) (by assumption) ?_; rotate_left; (intro X hSw; (try dsimp only at hSw); (go_simp <;> with_reducible rfl)))
          | (refine held_take (i := 4) (v := undef) rfl (by kernel_rfl) (by kernel_rfl) (by kernel_rfl) (fun _ _ _ h => h) (Or.inr ⟨rfl, rfl⟩) (by assumption) ?_)); simp only [Act.put, List.setIfInBounds_toArray, List.set_cons_zero, List.set_cons_succ]
        (first
          | (refine held_take (i := 5) (v := ?_) rfl (by kernel_rfl) (by kernel_rfl) (by kernel_rfl) (fun _ _ _ h => h) (Or.inl ⟨rfl, ?_⟩) (by assumption) ?_; rotate_left; (intro X hSw; (try dsimp only at hSw); (go_simp <;> with_reducible rfl)))
          | (refine held_take (i := 5) (v := undef) rfl (by kernel_rfl) (by kernel_rfl) (by kernel_rfl) (fun _ _ _ h => h) (Or.inr ⟨rfl, rfl⟩) (by assumption) ?_)); simp only [Act.put, List.setIfInBounds_toArray, List.set_cons_zero, List.set_cons_succ]
        (first
          | (refine held_take (i := 6) (v := ?_) rfl (by kernel_rfl) (by kernel_rfl) (by kernel_rfl) (fun _ _ _ h => h) (Or.inl ⟨rfl, ?_⟩) (by assumption) ?_; rotate_left; (intro X hSw; (try dsimp only at hSw); (go_simp <;> with_reducible rfl)))
          | (refine held_take (i := 6) (v := undef) rfl (by kernel_rfl) (by kernel_rfl) (by kernel_rfl) (fun _ _ _ h => h) (Or.inr ⟨rfl, rfl⟩) (by assumption) ?_)); simp only [Act.put, List.setIfInBounds_toArray, List.set_cons_zero, List.set_cons_succ]
        refine wpAnyH_ready (rs := [7]) (by kernel_rfl) (by simp) ?_
        refine AllReadyH.cons rfl (fun K hK => ?_) AllReadyH.nil
        refine step_copy_splice rfl (.tmp 41) (.tmp 44) 41 41 rfl 3 Try.underlying41 size3 _ _ _ _ _ _ rfl rfl w.heap.size k (two (.int .i64 x) (.int .i64 0) k (n - k)) 3 hO2.out.drew (List.replicate c (.int .i64 x)) ?d1 ?d2 ?d3 ?d4 w.heap.size w hb2.drew (Nat.le_refl _) ?_
        case d1 => rw [List.length_replicate]; exact HC.out
        case d2 =>
          intro _
          refine ⟨by rw [if_neg (by omega)], _, rfl, ?_⟩
          intro j v hj
          have hjc : j < c := by
            rcases Nat.lt_or_ge j c with h | h
            · exact h
            · rw [List.getElem?_eq_none (by simpa using h)] at hj
              cases hj
          rw [List.getElem?_replicate, if_pos hjc] at hj
          have e1 : (Addr.add ⟨w.heap.size, 0, none⟩ j) = ⟨w.heap.size, j, none⟩ := by unfold Addr.add; split <;> simp_all
          rw [e1]
          have := hO2.out.drew.cell j
          rw [this, two_get _ _ _ _ _ (by omega)]
          exact hj
        case d3 => rw [two_len, List.length_replicate]; omega
        case d4 => intro v hv; rw [(List.mem_replicate.1 hv).2]; rfl
        intro w4 HG4 hb4
        have hO4 : Hid (Own w4 w.heap.size 3 (two (.int .i64 x) (.int .i64 0) (k + c) (n - (k + c)))) := by
          have h := HG4.out
          rw [two_splice _ _ _ _ _ hc3, show n - k - c = n - (k + c) by omega] at h
          exact h
        clear HG4 hO2 hb2
        refine hK.out _ _ trivial (fun hHeld => ?_)
        clear hK K
        rw [List.length_replicate]
        (first
          | (refine held_take (i := 8) (v := ?_) rfl (by kernel_rfl) (by kernel_rfl) (by kernel_rfl) (fun _ _ _ h => h) (Or.inl ⟨rfl, ?_⟩) (by assumption) ?_; rotate_left; (intro X hSw; (try dsimp only at hSw); (go_simp <;> with_reducible rfl)))
          | (refine held_take (i := 8) (v := undef) rfl (by kernel_rfl) (by kernel_rfl) (by kernel_rfl) (fun _ _ _ h => h) (Or.inr ⟨rfl, rfl⟩) (by assumption) ?_)); simp only [Act.put, List.setIfInBounds_toArray]
        (first
          | (refine held_take (i := 9) (v := ?_) rfl (by kernel_rfl) (by kernel_rfl) (by kernel_rfl) (fun _ _ _ h => h) (Or.inl ⟨rfl, ?_⟩) (by assumption) ?_; rotate_left; (intro X hSw; (try dsimp only at hSw); (go_simp <;> with_reducible rfl)))
          | (refine held_take (i := 9) (v := undef) rfl (by kernel_rfl) (by kernel_rfl) (by kernel_rfl) (fun _ _ _ h => h) (Or.inr ⟨rfl, rfl⟩) (by assumption) ?_)); simp only [Act.put]
        refine wpAnyH_done (by kernel_rfl) ?_ _
        go_wp2
        go_roundw
        case rel => exact ⟨k + c, by omega, by omega, by omega, hO4⟩
        case measure => simp [intOf]; omega
      · obtain rfl : k = n := by omega
        have hlt' : ¬ (k : Int) < (k : Int) := by omega
        go_wp2
        go_ret
        refine ⟨_, rfl, Nat.le_refl _, ?_, hb2⟩
        have h := hO2.out
        simpa [two] using h

end Go.Proofs.Ytkgiklmdpdakbaa

/- The least lengths of heads: impl.CfgLeast. -/
namespace Go.Proofs.Ytkgiklmdpdakbaa
open Go.RowKit
set_option linter.unusedVariables false

theorem own_to_row {w : World} {g n base : Nat} {xs : List Value} (h : Own w g 3 xs) (hl : xs.length = n) (hn : n ≤ maxLen) (hb : base ≤ g) : w.ownsRow base 3 1 (.slice (some ⟨g, 0, none⟩) n n) n xs := by
  subst hl
  exact ⟨by simp, .inr ⟨g, xs.length, xs.toArray, rfl, hb, h, Nat.le_refl _, hn, by simp, by simp⟩⟩

set_option maxRecDepth 100000 in
set_option maxHeartbeats 2000000 in
theorem implLeast_any (hd : Int) (ps : List Pd) (a : Option Addr) (c : Nat) (w : World) (hr : Pds w a ps) (hm : ps.length ≤ 1048576) (hs : Small ps) :
    Calls Try.prog 20 #[.agg #[.int .i64 hd, .slice a ps.length c]] w (LeastPost hd ps w) := by
  have HR := Lib.hid hr
  have HS := Lib.hid hs
  clear hr hs
  go_enter Try.func20, Try.ntmps20
  go_wp2_with fail
  refine (implOk_any hd ps a c _ (HR.out.keep (below_box _)) hm HS.out).mono ?_
  rintro e w1 ⟨rfl, hb⟩
  have hb1 : Below w.heap.size w w1 := (below_box _).trans (hb.mono (by simp))
  have k0 : w1.cell? ⟨w.heap.size, 0, none⟩ = some (.int .i64 hd) := cell_keep hb (by simp)
  have k1 : w1.cell? ⟨w.heap.size, 1, none⟩ = some (.slice a ps.length c) := cell_keep hb (by simp)
  have kl := cell_lt k0
  simp only at kl
  clear hb
  cases hok : cfgOkB hd ps
  · have IL : Hid (IsLeast hd ps []) := by show IsLeast hd ps []; unfold IsLeast; rw [if_neg (by simp [hok])]
    go_wp2
    go_ret
    exact ⟨[], none, 0, rfl, World.ownsRow_nil _ _ _ _, IL.out, hb1⟩
  · have hd0 : 0 ≤ hd := by unfold cfgOkB at hok; simp at hok; omega
    obtain ⟨n, rfl⟩ : ∃ n : Nat, hd = n := ⟨hd.toNat, by omega⟩
    obtain ⟨hfit, hp4, hn0, hn2⟩ := ok_fit hok
    have HF := Lib.hid hfit
    have HOK := Lib.hid hok
    clear hfit hok hd0
    have hbA := hb1.alloc hb1.size (.cells #[.int .i64 (-1)] 3)
    have HRP := Lib.hid (repeat_any n w1.heap.size (-1) (w1.alloc (.cells #[.int .i64 (-1)] 3)) (by simp) hn0 hn2)
    go_wp2_with fail
    refine HRP.out.mono ?_
    rintro e w2 ⟨g, rfl, hg, hO, hb2⟩
    have hbB : Below w.heap.size w w2 := hbA.trans (hb2.mono hbA.size)
    have hgw : w.heap.size < g := by simp at hg; omega
    have k0' := cell_keep hb2 (cell_alloc k0 _)
    have k1' := cell_keep hb2 (cell_alloc k1 _)
    have hgl := hO.lt
    have kl2 := cell_lt k1'
    simp only at kl2
    have hO3 := (hO.alloc (.cells #[.slice (some ⟨g, 0, none⟩) n n] 41))
    have hbC : Below w.heap.size w (w2.alloc (.cells #[.slice (some ⟨g, 0, none⟩) n n] 41)) := hbB.alloc hbB.size _
    have hlb : (w2.alloc (.cells #[.slice (some ⟨g, 0, none⟩) n n] 41)).cell? ⟨w2.heap.size, 0, none⟩ = some (.slice (some ⟨g, 0, none⟩) n n) := by simp
    have k1C := cell_alloc k1' (.cells #[.slice (some ⟨g, 0, none⟩) n n] 41)
    have hrow : (w2.alloc (.cells #[.slice (some ⟨g, 0, none⟩) n n] 41)).ownsRow w.heap.size 3 1 (.slice (some ⟨g, 0, none⟩) n n) n (ints (List.replicate n (-1))) := by
      have e : ints (List.replicate n (-1)) = List.replicate n (.int .i64 (-1)) := by simp [ints]
      rw [e]
      exact own_to_row hO3 (by simp) (by unfold maxLen; omega) (by omega)
    have HSE := Lib.hid (settle_any n g n w2.heap.size ps (List.replicate n (-1)) a c w (w2.alloc (.cells #[.slice (some ⟨g, 0, none⟩) n n] 41)) HR.out hbC HF.out hp4 hn0 hn2 hlb (by omega) hbB.size hrow Reach.start)
    clear HRP hbA hb2 hbB hO hO3 hbC hrow k1C hlb
    go_wp2_with fail
    refine HSE.out.mono ?_
    rintro e w4 ⟨rfl, L, hre, hst, ho4, hlb4, hb4⟩
    have hlen := hre.length
    have IL : Hid (IsLeast (n : Int) ps L) := by
      show IsLeast _ _ _
      unfold IsLeast
      rw [if_pos HOK.out]
      exact ⟨by simpa using hre, hst⟩
    have HLN := Lib.hid hlen
    have HO4 := Lib.hid ho4
    clear hre hst HSE hlen ho4
    go_wp2
    go_ret
    exact ⟨L, some ⟨g, 0, none⟩, n, by rw [HLN.out]; rfl, by rw [HLN.out]; exact HO4.out, IL.out, hb4⟩

end Go.Proofs.Ytkgiklmdpdakbaa

/- Lists of ints compared, marked and held; productions marked. -/
namespace Go.Proofs.Ytkgiklmdpdakbaa
open Go.RowKit
set_option linter.unusedVariables false

/-- The numbers from k on. -/
def marks (k : Int) (n : Nat) : List Int := (List.range n).map fun (i : Nat) => k + (i : Int)
@[simp] theorem marks_length (k : Int) (n : Nat) : (marks k n).length = n := by simp [marks]
theorem marks_at (k : Int) (n j : Nat) (h : j < (marks k n).length) : (marks k n)[j] = k + j := by simp [marks]
theorem marks_snoc (k : Int) (n : Nat) : marks k (n + 1) = marks k n ++ [k + n] := by simp [marks, List.range_succ]

/-- The marks are written into a row of the call's own. -/
def MarkIPost (w : World) (base : Nat) (A : Option Addr) (n cap : Nat) (k : Int) (e : Ending) (w' : World) : Prop :=
  e = .returned (.int .i64 (k + n)) ∧ w'.ownsRow base 3 1 (.slice A n cap) n (ints (marks k n)) ∧ Fr (fun j => (Value.slice A n cap).ownBlock = some j) (fun j => (Value.slice A n cap).ownBlock = some j) w w'

theorem marks_set {zs : List Int} {k : Int} {j : Nat} (hj : j < zs.length) : (ints (marks k j ++ zs.drop j)).set j (.int .i64 (k + j)) = ints (marks k (j + 1) ++ zs.drop (j + 1)) := by
  rw [marks_snoc, List.drop_eq_getElem_cons hj]
  unfold ints
  rw [← List.map_set, List.set_append_right _ _ (by simp), marks_length, Nat.sub_self, List.set_cons_zero, List.append_assoc]
  rfl

set_option maxRecDepth 100000 in
set_option maxHeartbeats 2000000 in
theorem markSy_any (g n : Nat) (cur : List Value) (k : Int) (w : World) (ho : Own w g 49 cur) (hl : cur.length = n * 3) (hm : n ≤ 1048576) (hk0 : 1 ≤ k) (hk : k ≤ 10000000000000) :
    Calls Try.prog 47 #[.slice (some ⟨g, 0, none⟩) n n, .int .i64 k] w fun e w' => e = .returned (.int .i64 (k + 3 * n)) ∧ (∃ cur', Own w' g 49 cur' ∧ cur'.length = n * 3) ∧ Fr (fun j => j = g) (fun j => j = g) w w' := by
  have HO := Lib.hid ho
  have HL := Lib.hid hl
  clear ho hl
  go_enter Try.func47, Try.ntmps47
  go_wp2
  go_loopw [1, 5] (fun q i wr => ∃ (j : Nat), i = .int .i64 j ∧ q = .int .i64 (k + 3 * j) ∧ j ≤ n ∧ (∃ cur', Own wr g 49 cur' ∧ cur'.length = n * 3) ∧ Fr (fun j => j = g) (fun j => j = g) w wr) (fun _ i _ => n - (intOf i).toNat)
  case atStart => exact ⟨0, rfl, by go_num, Nat.zero_le _, ⟨cur, HO.out, HL.out⟩, Fr.refl _ _⟩
  case round =>
    obtain ⟨j, rfl, rfl, hj, ⟨cu, ho, hl⟩, hg⟩ := hrel
    by_cases hlt : j < n
    · have hlt' : (j : Int) < (n : Int) := by omega
      have hgl := ho.lt
      obtain ⟨v0, hv0⟩ : ∃ v, wr.cell? ⟨g, j * 3, none⟩ = some v := ⟨_, ho.cell_ (by omega)⟩
      obtain ⟨v1, hv1⟩ : ∃ v, wr.cell? ⟨g, j * 3 + 1, none⟩ = some v := ⟨_, ho.cell_ (by omega)⟩
      obtain ⟨v2, hv2⟩ : ∃ v, wr.cell? ⟨g, j * 3 + 2, none⟩ = some v := ⟨_, ho.cell_ (by omega)⟩
      have f0 := ho.frozen (j * 3)
      have f1 := ho.frozen (j * 3 + 1)
      have f2 := ho.frozen (j * 3 + 2)
      have A : ∀ x y z : Value, Hid ((∃ cur', Own (((wr.setCell ⟨g, j * 3, none⟩ x).setCell ⟨g, j * 3 + 1, none⟩ y).setCell ⟨g, j * 3 + 2, none⟩ z) g 49 cur' ∧ cur'.length = n * 3) ∧ Fr (fun j => j = g) (fun j => j = g) w (((wr.setCell ⟨g, j * 3, none⟩ x).setCell ⟨g, j * 3 + 1, none⟩ y).setCell ⟨g, j * 3 + 2, none⟩ z)) := fun x y z =>
        ⟨⟨_, ((ho.set_ _ _).set_ _ _).set_ _ _, by simp [hl]⟩, ((hg.setCell (p := ⟨g, j * 3, none⟩) rfl _).setCell (p := ⟨g, j * 3 + 1, none⟩) rfl _).setCell (p := ⟨g, j * 3 + 2, none⟩) rfl _⟩
      have HA := Lib.hid A
      clear ho hl hg A
      go_wp2
      go_roundw
      case rel => exact ⟨j + 1, by go_num, by go_num, by omega, (HA.out _ _ _).out.1, (HA.out _ _ _).out.2⟩
      case measure => simp [intOf]; omega
    · have hlt' : ¬ (j : Int) < (n : Int) := by omega
      go_wp2
      go_ret
      have : j = n := by omega
      subst this
      exact ⟨rfl, ⟨cu, ho, hl⟩, hg⟩

/-- The blocks of productions that are one's own. -/
def PF (g : Nat) (bs : List Nat) (k : Nat) : Prop := k = g ∨ k ∈ bs

/-- While productions are marked. -/
structure MP (g : Nat) (bs : List Nat) (ps : List Pd) (w : World) : Prop where
  o : ∃ cur, Own w g 46 cur ∧ cur.length = ps.length * 2 ∧ ∀ i (h : i < ps.length) (h' : i < bs.length), cur[i * 2 + 1]? = some (.slice (some ⟨bs[i], 0, none⟩) ps[i].body.length ps[i].body.length)
  d : ∀ i (h : i < ps.length) (h' : i < bs.length), ∃ cur, Own w bs[i] 49 cur ∧ cur.length = ps[i].body.length * 3

theorem OP.mp {w : World} {g : Nat} {bs : List Nat} {ps : List Pd} (h : OP w g bs ps) : MP g bs ps w :=
  ⟨⟨_, h.o, pdCells_length bs ps h.l, fun i hi hi' => (pdCells_get bs ps i hi hi').2⟩, fun i hi hi' => ⟨_, h.d i hi hi', symCells_length _⟩⟩

set_option maxRecDepth 100000 in
set_option maxHeartbeats 2000000 in
theorem markPds_any (g : Nat) (bs : List Nat) (ps : List Pd) (w : World) (hop : OP w g bs ps) (hm : ps.length ≤ 1048576) (hs : Small ps) :
    Calls Try.prog 33 #[.slice (some ⟨g, 0, none⟩) ps.length ps.length, .int .i64 1] w fun e w' => ∃ k : Int, e = .returned (.int .i64 k) ∧ 1 ≤ k ∧ Fr (PF g bs) (PF g bs) w w' := by
  have HL := Lib.hid hop.l
  have HLT := Lib.hid hop.lt
  have HS := Lib.hid hs
  have hmp := hop.mp
  clear hop hs
  go_enter Try.func33, Try.ntmps33
  go_wp2
  go_loopw [1, 5] (fun q i wr => ∃ (j : Nat), i = .int .i64 j ∧ (∃ k : Int, q = .int .i64 k ∧ 1 ≤ k ∧ k ≤ 1 + j * 4000000) ∧ j ≤ ps.length ∧ MP g bs ps wr ∧ Fr (PF g bs) (PF g bs) w wr) (fun _ i _ => ps.length - (intOf i).toNat)
  case atStart => exact ⟨0, rfl, ⟨1, rfl, by omega, by omega⟩, Nat.zero_le _, hmp, Fr.refl _ _⟩
  case round =>
    clear hmp
    obtain ⟨j, rfl, ⟨k, rfl, hk0, hk1⟩, hj, hmp, hg⟩ := hrel
    by_cases hlt : j < ps.length
    · have hlt' : (j : Int) < (ps.length : Int) := by omega
      have hjb : j < bs.length := by have := HL.out; omega
      obtain ⟨cur, ho, hl, hc⟩ := hmp.o
      have hz := HS.out _ (List.getElem_mem hlt)
      have hgb : g < bs[j] := HLT.out _ (List.getElem_mem hjb)
      have c1 : wr.cell? ⟨g, j * 2 + 1, none⟩ = some (.slice (some ⟨bs[j], 0, none⟩) ps[j].body.length ps[j].body.length) := by rw [ho.cell]; exact hc j hlt hjb
      obtain ⟨v0, hv0⟩ : ∃ v, wr.cell? ⟨g, j * 2, none⟩ = some v := ⟨_, ho.cell_ (by omega)⟩
      have f0 := ho.frozen (j * 2)
      have hgl := ho.lt
      have o1 := ho.set_ (j * 2) (.int .i64 k)
      have d1 : ∀ i (h : i < ps.length) (h' : i < bs.length), ∃ cur, Own (wr.setCell ⟨g, j * 2, none⟩ (.int .i64 k)) bs[i] 49 cur ∧ cur.length = ps[i].body.length * 3 := fun i h h' => by
        obtain ⟨cu, q1, q2⟩ := hmp.d i h h'
        exact ⟨cu, q1.far (by have := HLT.out _ (List.getElem_mem h'); simp; omega) _, q2⟩
      have g1 := hg.setCell (p := ⟨g, j * 2, none⟩) (.inl rfl) (.int .i64 k)
      have HO1 := Lib.hid o1
      have HC := Lib.hid hc
      have HD1 := Lib.hid d1
      have HG1 := Lib.hid g1
      have HLL := Lib.hid hl
      obtain ⟨cj, oj, lj⟩ := d1 j hlt hjb
      have hbj : ∃ b, bs[j] = b := ⟨_, rfl⟩
      clear hmp hg ho o1 d1 g1 hc hl
      obtain ⟨b, hb⟩ := hbj
      rw [hb] at c1 oj hgb
      have HB := Lib.hid hb
      obtain ⟨m, hm2⟩ : ∃ m, ps[j].body.length = m := ⟨_, rfl⟩
      rw [hm2] at c1 lj hz
      have HM2 := Lib.hid hm2
      clear hb hm2
      go_wp2_with fail
      refine (markSy_any b m cj (k + 1) _ oj lj hz (by omega) (by omega)).mono ?_
      rintro e w2 ⟨rfl, ⟨c2, o2, l2⟩, hg2⟩
      have hfr : Fr (PF g bs) (PF g bs) w w2 := HG1.out.trans (hg2.wide (fun k e => .inr (by rw [e, ← HB.out]; exact List.getElem_mem hjb)))
      have hmp2 : MP g bs ps w2 := by
        refine ⟨⟨_, hg2.own HO1.out (fun e => by omega), by simp [HLL.out], fun i h h' => ?_⟩, fun i h h' => ?_⟩
        · rw [List.getElem?_set_ne (by omega)]; exact HC.out i h h'
        · by_cases e : bs[i] = b
          · obtain ⟨cu, q1, q2⟩ := HD1.out i h h'
            have q3 : cu.length = ps[i].body.length * 3 := q2
            have ee : cu = cj := by
              have u1 : Own (wr.setCell ⟨g, j * 2, none⟩ (.int .i64 k)) b 49 cu := by rw [← e]; exact q1
              unfold Own at u1 oj
              rw [u1] at oj
              injection oj with oj
              injection oj with oj
              simpa using congrArg Array.toList oj
            refine ⟨c2, by rw [e]; exact o2, ?_⟩
            rw [l2, ← lj, ← ee, q3]
          · obtain ⟨cu, q1, q2⟩ := HD1.out i h h'
            exact ⟨cu, hg2.own q1 e, q2⟩
      clear HO1 HC HD1 HG1 HLL oj hg2 o2
      go_wp2
      go_roundw
      case rel => exact ⟨j + 1, by go_num, ⟨_, rfl, by omega, by omega⟩, by omega, hmp2, hfr⟩
      case measure => simp [intOf]; omega
    · have hlt' : ¬ (j : Int) < (ps.length : Int) := by omega
      go_wp2
      go_ret
      exact ⟨k, rfl, hk0, hg⟩

set_option maxRecDepth 100000 in
set_option maxHeartbeats 1000000 in
theorem markCfg_any (hd : Int) (g : Nat) (bs : List Nat) (ps : List Pd) (w : World) (hop : OP w g bs ps) (hm : ps.length ≤ 1048576) (hs : Small ps) :
    Calls Try.prog 13 #[.agg #[.int .i64 hd, .slice (some ⟨g, 0, none⟩) ps.length ps.length], .int .i64 1] w fun e w' => ∃ k : Int, e = .returned (.int .i64 k) ∧ 1 ≤ k ∧ Fr (PF g bs) (PF g bs) w w' := by
  have HO := Lib.hid hop
  have HS := Lib.hid hs
  clear hop hs
  go_enter Try.func13, Try.ntmps13
  go_wp2_with fail
  refine (markPds_any g bs ps _ (HO.out.alloc _) hm HS.out).mono ?_
  rintro e w1 ⟨k, rfl, hk, hf⟩
  go_wp2
  go_ret
  exact ⟨k, rfl, hk, (Fr.of_below _ (below_box _)).trans hf⟩

end Go.Proofs.Ytkgiklmdpdakbaa

/- What least lengths of productions are bounded by. -/
namespace Go.Proofs.Ytkgiklmdpdakbaa
open Go.RowKit
set_option linter.unusedVariables false

theorem IsLeast.len {hd : Int} {ps : List Pd} {L : List Int} (h : IsLeast hd ps L) : L.length ≤ 200 := by
  unfold IsLeast at h
  split at h
  · rename_i h1
    have h2 : hd ≤ 200 := by unfold cfgOkB at h1; simp at h1; omega
    have := h.1.length
    omega
  · rw [h]; simp

theorem PF.range {w : World} {g : Nat} {bs : List Nat} {ps : List Pd} (h : OP w g bs ps) {k : Nat} (hk : PF g bs k) : g ≤ k ∧ k < w.heap.size := by
  rcases hk with rfl | hk
  · exact ⟨Nat.le_refl _, h.o.lt⟩
  · refine ⟨Nat.le_of_lt (h.lt k hk), ?_⟩
    obtain ⟨i, hi, rfl⟩ := List.getElem_of_mem hk
    exact (h.d i (by rw [← h.l]; exact hi) hi).lt

end Go.Proofs.Ytkgiklmdpdakbaa

/- Needed heads and trimmed productions, plain. -/
namespace Go.Proofs.Ytkgiklmdpdakbaa
open Go.RowKit
set_option linter.unusedVariables false

/-- What flags say of a head. -/
def fl (N : List Bool) (h : Int) : Bool := N.getD h.toNat false

inductive Need (qs : List Pd) : Int → Prop
  | zero : Need qs 0
  | step (p : Pd) (s : Sy) : p ∈ qs → Need qs p.head → s ∈ p.body → 0 ≤ s.head → Need qs s.head

def Cov (N : List Bool) (p : Pd) : Prop := ∀ s ∈ p.body, 0 ≤ s.head → fl N s.head = true

structure IsNeed (n : Nat) (qs : List Pd) (N : List Bool) : Prop where
  l : N.length = n
  z : fl N 0 = true
  s : ∀ h, 0 ≤ h → fl N h = true → Need qs h
  c : ∀ p ∈ qs, fl N p.head = true → Cov N p

theorem fl_nat (N : List Bool) (i : Nat) (h : i < N.length) : fl N (i : Int) = N[i] := by unfold fl; simp [h]

section
variable {n : Nat} {qs : List Pd} {N N1 N2 : List Bool}
theorem IsNeed.of (h : IsNeed n qs N) {x : Int} (hx : Need qs x) : fl N x = true := by
  induction hx with
  | zero => exact h.z
  | step p s hp _ hs h0 ih => exact h.c p hp ih s hs h0
theorem IsNeed.one (h1 : IsNeed n qs N1) (h2 : IsNeed n qs N2) : N1 = N2 := by
  apply List.ext_getElem (by rw [h1.l, h2.l])
  intro i hi1 hi2
  rw [← fl_nat N1 i hi1, ← fl_nat N2 i hi2]
  cases a : fl N1 i
  · cases b : fl N2 i
    · rfl
    · have := h1.of (h2.s i (by omega) b)
      rw [a] at this; cases this
  · exact (h2.of (h1.s i (by omega) a)).symm
end

theorem fl_set {N : List Bool} {i : Nat} {b : Bool} (h : i < N.length) (k : Int) : fl (N.set i b) k = if k.toNat = i then b else fl N k := by
  unfold fl
  rw [List.getD_eq_getElem?_getD, List.getD_eq_getElem?_getD, List.getElem?_set]
  by_cases e : i = k.toNat
  · subst e; simp [h]
  · rw [if_neg e, if_neg (by omega)]
theorem fl_up {N : List Bool} {i : Nat} (h : i < N.length) {k : Int} (hk : fl N k = true) : fl (N.set i true) k = true := by
  rw [fl_set h]; split
  · rfl
  · exact hk
theorem Cov.up {N : List Bool} {p : Pd} {i : Nat} (h : i < N.length) (hc : Cov N p) : Cov (N.set i true) p := fun s hs h0 => fl_up h (hc s hs h0)

/-- How many flags are not set. -/
def cntF (N : List Bool) : Nat := N.count false
theorem cntF_set : ∀ {N : List Bool} {i : Nat} (h : i < N.length), N[i] = false → cntF (N.set i true) + 1 = cntF N
  | b :: r, 0, h, hb => by
    simp only [List.getElem_cons_zero] at hb
    subst hb
    simp [cntF]
  | b :: r, i + 1, h, hb => by
    have := cntF_set (N := r) (i := i) (by simpa using h) (by simpa using hb)
    unfold cntF at *
    simp only [List.set_cons_succ, List.count_cons]
    omega
theorem cntF_replicate (n : Nat) : cntF (List.replicate n false) = n := by simp [cntF]
theorem cntF_le (N : List Bool) : cntF N ≤ N.length := List.count_le_length

/-- Whether a production ends, by the least lengths. -/
def termB (L : List Int) (p : Pd) : Bool := decide (0 ≤ sumOf L p.body)

/-- What is left of productions that are ok. -/
def IsTrim (hd : Int) (ps : List Pd) (hd' : Int) (qs : List Pd) : Prop :=
  if cfgOkB hd ps = true then hd' = hd ∧ ∃ L N, IsLeast hd ps L ∧ IsNeed hd.toNat (ps.filter (termB L)) N ∧ qs = (ps.filter (termB L)).filter (fun p => fl N p.head) else hd' = 0 ∧ qs = []

theorem IsTrim.one {hd h1 h2 : Int} {ps q1 q2 : List Pd} (a : IsTrim hd ps h1 q1) (b : IsTrim hd ps h2 q2) : h1 = h2 ∧ q1 = q2 := by
  unfold IsTrim at a b
  split at a
  · rename_i h
    rw [if_pos h] at b
    obtain ⟨e1, L1, N1, a1, a2, a3⟩ := a
    obtain ⟨e2, L2, N2, b1, b2, b3⟩ := b
    obtain rfl := a1.one b1
    obtain rfl := a2.one b2
    exact ⟨e1.trans e2.symm, a3.trans b3.symm⟩
  · rename_i h
    rw [if_neg h] at b
    exact ⟨a.1.trans b.1.symm, a.2.trans b.2.symm⟩

theorem IsTrim.len {hd h1 : Int} {ps q1 : List Pd} (a : IsTrim hd ps h1 q1) : q1.length ≤ 400 := by
  unfold IsTrim at a
  split at a
  · rename_i h
    obtain ⟨e1, L1, N1, a1, a2, a3⟩ := a
    have h2 : ps.length ≤ 400 := by unfold cfgOkB at h; simp at h; omega
    rw [a3]
    have := List.length_filter_le (fun p => fl N1 p.head) (ps.filter (termB L1))
    have := List.length_filter_le (termB L1) ps
    omega
  · rw [a.2]; simp
theorem IsTrim.small {hd h1 : Int} {ps q1 : List Pd} (a : IsTrim hd ps h1 q1) (hs : Small ps) : Small q1 := by
  unfold IsTrim at a
  split at a
  · obtain ⟨e1, L1, N1, a1, a2, a3⟩ := a
    rw [a3]
    intro p hp
    exact hs p (List.mem_filter.1 (List.mem_filter.1 hp).1).1
  · rw [a.2]; intro p hp; cases hp

/-- The flags as cells. -/
def bools (N : List Bool) : List Value := N.map .bool
@[simp] theorem bools_length (N : List Bool) : (bools N).length = N.length := by simp [bools]
theorem bools_set (N : List Bool) (i : Nat) (b : Bool) : (bools N).set i (.bool b) = bools (N.set i b) := by simp [bools, List.map_set]
theorem Own.flag {w : World} {g : Nat} {N : List Bool} (h : Own w g 4 (bools N)) {k : Int} (h0 : 0 ≤ k) (h1 : k < N.length) : w.cell? ⟨g, k.toNat, none⟩ = some (.bool (fl N k)) := by
  rw [h.cell]
  unfold bools fl
  rw [List.getElem?_map, List.getD_eq_getElem?_getD, List.getElem?_eq_getElem (by omega)]
  rfl
theorem Own.putFlag {w : World} {g : Nat} {N : List Bool} (h : Own w g 4 (bools N)) (i : Nat) (b : Bool) : Own (w.setCell ⟨g, i, none⟩ (.bool b)) g 4 (bools (N.set i b)) := by
  have := h.set_ i (.bool b)
  rwa [bools_set] at this

/-- A production with the slice that its symbols lie in. -/
structure Pv where
  p : Pd
  K : Option Addr
  kc : Nat
def Pv.sl (x : Pv) : Value := .slice x.K x.p.body.length x.kc
def Pv.val (x : Pv) : Value := .agg #[.int .i64 x.p.head, x.sl]
def pvCells : List Pv → List Value
  | [] => []
  | x :: r => .int .i64 x.p.head :: x.sl :: pvCells r
theorem pvCells_length (xs : List Pv) : (pvCells xs).length = xs.length * 2 := by
  induction xs with
  | nil => rfl
  | cons x r ih => simp [pvCells, ih]; omega
theorem pvCells_append (a b : List Pv) : pvCells (a ++ b) = pvCells a ++ pvCells b := by
  induction a with
  | nil => rfl
  | cons x r ih => simp [pvCells, ih]
theorem pvCells_get (xs : List Pv) : ∀ (i : Nat) (h : i < xs.length), (pvCells xs)[i * 2]? = some (.int .i64 xs[i].p.head) ∧ (pvCells xs)[i * 2 + 1]? = some xs[i].sl := by
  induction xs with
  | nil => intro i h; simp at h
  | cons x r ih =>
    intro i h
    cases i with
    | zero => exact ⟨rfl, rfl⟩
    | succ n =>
      have := ih n (by simpa using h)
      have e : (n + 1) * 2 = n * 2 + 2 := by omega
      rw [e]
      simpa [pvCells] using this
theorem pvCells_set (xs : List Pv) (x : Pv) : ∀ (i : Nat) (h : i < xs.length), ((pvCells xs).set (i * 2) (.int .i64 x.p.head)).set (i * 2 + 1) x.sl = pvCells (xs.set i x) := by
  induction xs with
  | nil => intro i h; simp at h
  | cons y r ih =>
    intro i h
    cases i with
    | zero => simp [pvCells]
    | succ n =>
      have := ih n (by simpa using h)
      have e : (n + 1) * 2 = n * 2 + 2 := by omega
      rw [e]
      simp only [pvCells, List.set_cons_succ]
      rw [this]
theorem pvCells_one (xs : List Pv) : ∀ u ∈ pvCells xs, u.oneCell' = true := by
  induction xs with
  | nil => intro u hu; cases hu
  | cons x r ih =>
    intro u hu
    simp only [pvCells, List.mem_cons] at hu
    rcases hu with rfl | rfl | hu
    · rfl
    · rfl
    · exact ih u hu
theorem symCells_one (ss : List Sy) : ∀ u ∈ symCells ss, u.oneCell' = true := by
  induction ss with
  | nil => intro u hu; cases hu
  | cons x r ih =>
    intro u hu
    simp only [symCells, List.mem_cons] at hu
    rcases hu with rfl | rfl | rfl | hu
    · rfl
    · rfl
    · rfl
    · exact ih u hu

/-- Each production's symbols lie where its slice says. -/
def Bodies (w : World) (xs : List Pv) : Prop := ∀ x ∈ xs, Syms w x.K x.p.body
theorem Bodies.keep {w w' : World} {xs : List Pv} (h : Bodies w xs) (hb : Below w.heap.size w w') : Bodies w' xs := fun x hx => (h x hx).keep hb

theorem pv_of {w : World} {b : Nat} : ∀ (ps : List Pd) (off : Nat), (∀ i (h : i < ps.length), ∃ K kc, PdAt w b (off + i * 2) ps[i] K kc) →
    ∃ xs : List Pv, xs.map Pv.p = ps ∧ Bodies w xs ∧ ∀ i (h : i < (pvCells xs).length), w.cell? ⟨b, off + i, none⟩ = some (pvCells xs)[i]
  | [], off, _ => ⟨[], rfl, (fun x hx => by cases hx), fun i h => by simp [pvCells] at h⟩
  | p :: r, off, h => by
    obtain ⟨xs, h1, h2, h3⟩ := pv_of r (off + 2) (fun i hi => by
      obtain ⟨K, kc, hp⟩ := h (i + 1) (by simpa using hi)
      refine ⟨K, kc, ?_⟩
      rw [show off + 2 + i * 2 = off + (i + 1) * 2 by omega]
      exact hp)
    obtain ⟨K, kc, hp⟩ := h 0 (by simp)
    simp only [Nat.zero_mul, Nat.add_zero, List.getElem_cons_zero] at hp
    refine ⟨⟨p, K, kc⟩ :: xs, by simp [h1], ?_, ?_⟩
    · intro x hx
      rcases List.mem_cons.1 hx with rfl | hx
      · exact hp.k
      · exact h2 x hx
    · intro i hi
      rcases i with _ | _ | i
      · exact hp.c0
      · exact hp.c1
      · have hi' : i < (pvCells xs).length := by simp [pvCells] at hi; omega
        have := h3 i hi'
        rw [show off + 2 + i = off + (i + 2) by omega] at this
        rw [this]; rfl
theorem Pds.pv {w : World} {a : Option Addr} {ps : List Pd} (h : Pds w a ps) : ∃ xs : List Pv, xs.map Pv.p = ps ∧ Bodies w xs ∧ Row w a (pvCells xs) := by
  rcases h with h | ⟨b, off, e, h⟩
  · subst h; exact ⟨[], rfl, (fun x hx => by cases hx), .inl rfl⟩
  · obtain ⟨xs, h1, h2, h3⟩ := pv_of ps off h
    exact ⟨xs, h1, h2, .inr ⟨b, off, e, h3⟩⟩
theorem row_pds {w : World} {a : Option Addr} {xs : List Pv} (h : Row w a (pvCells xs)) (hb : Bodies w xs) : Pds w a (xs.map Pv.p) := by
  rcases h with h | ⟨b, off, e, h⟩
  · have : xs = [] := by
      cases xs with
      | nil => rfl
      | cons x r => cases h
    subst this; exact .inl rfl
  · refine .inr ⟨b, off, e, fun i hi => ?_⟩
    have hi' : i < xs.length := by simpa using hi
    have hl := pvCells_length xs
    obtain ⟨g0, g1⟩ := pvCells_get xs i hi'
    have c0 := h (i * 2) (by omega)
    have c1 := h (i * 2 + 1) (by omega)
    rw [List.getElem?_eq_getElem (by omega)] at g0 g1
    refine ⟨xs[i].K, xs[i].kc, ?_, ?_, ?_⟩
    · rw [c0, g0]; simp
    · rw [show off + i * 2 + 1 = off + (i * 2 + 1) by omega, c1, g1]; simp [Pv.sl]
    · simp only [List.getElem_map]; exact hb _ (List.getElem_mem hi')

theorem Syms.cells {w : World} {b off : Nat} {ss : List Sy} (h : ∀ i (h : i < ss.length), SyAt w b (off + i * 3) ss[i]) : ∀ j u, (symCells ss)[j]? = some u → w.cell? ((⟨b, off, none⟩ : Addr).add j) = some u := by
  intro j u hu
  have e1 : (Addr.add ⟨b, off, none⟩ j) = ⟨b, off + j, none⟩ := by unfold Addr.add; split <;> simp_all
  rw [e1]
  have hl := symCells_length ss
  have hj : j < ss.length * 3 := by
    rcases Nat.lt_or_ge j (symCells ss).length with h | h
    · omega
    · rw [List.getElem?_eq_none h] at hu; cases hu
  have hi : j / 3 < ss.length := by omega
  obtain ⟨g0, g1, g2⟩ := symCells_get ss (j / 3) hi
  obtain ⟨c0, c1, c2⟩ := h (j / 3) hi
  have hm : j % 3 = 0 ∨ j % 3 = 1 ∨ j % 3 = 2 := by omega
  rcases hm with hm | hm | hm
  · have e : j = j / 3 * 3 := by omega
    rw [e] at hu ⊢; rw [c0, ← hu, g0]
  · have e : j = j / 3 * 3 + 1 := by omega
    rw [e] at hu ⊢; rw [← Nat.add_assoc, c1, ← hu, g1]
  · have e : j = j / 3 * 3 + 2 := by omega
    rw [e] at hu ⊢; rw [← Nat.add_assoc, c2, ← hu, g2]

end Go.Proofs.Ytkgiklmdpdakbaa

/- slices.Clone of productions and of symbols. -/
namespace Go.Proofs.Ytkgiklmdpdakbaa
open Go.RowKit
set_option linter.unusedVariables false

theorem Row.news {w : World} {ad : Addr} {xs : List Value} (h : Row w (some ad) xs) : ∀ j u, xs[j]? = some u → w.cell? (ad.add j) = some u := by
  intro j u hu
  rcases h with h | ⟨b, off, e, h⟩
  · rw [h] at hu; cases hu
  · injection e with e
    subst e
    have e1 : (Addr.add ⟨b, off, none⟩ j) = ⟨b, off + j, none⟩ := by unfold Addr.add; split <;> simp_all
    obtain ⟨hj, hu⟩ := List.getElem?_eq_some_iff.1 hu
    rw [e1, h j hj, hu]
theorem Row.none_nil {w : World} {xs : List Value} (h : Row w none xs) : xs = [] := by
  rcases h with h | ⟨b, off, e, h⟩
  · exact h
  · cases e
theorem Syms.row {w : World} {a : Option Addr} {ss : List Sy} (h : Syms w a ss) : Row w a (symCells ss) := by
  rcases h with h | ⟨b, off, e, h⟩
  · subst h; exact .inl rfl
  · refine .inr ⟨b, off, e, fun i hi => ?_⟩
    have := Syms.cells h i _ (List.getElem?_eq_getElem hi)
    have e1 : (Addr.add ⟨b, off, none⟩ i) = ⟨b, off + i, none⟩ := by unfold Addr.add; split <;> simp_all
    rw [e1] at this; exact this
theorem Row.syms {w : World} {a : Option Addr} {ss : List Sy} (h : Row w a (symCells ss)) : Syms w a ss := by
  rcases h with h | ⟨b, off, e, h⟩
  · have : ss = [] := by
      cases ss with
      | nil => rfl
      | cons x r => cases h
    exact .inl this
  · refine .inr ⟨b, off, e, fun i hi => ?_⟩
    have hl := symCells_length ss
    obtain ⟨g0, g1, g2⟩ := symCells_get ss i hi
    have c0 := h (i * 3) (by omega)
    have c1 := h (i * 3 + 1) (by omega)
    have c2 := h (i * 3 + 2) (by omega)
    rw [List.getElem?_eq_getElem (by omega)] at g0 g1 g2
    injection g0 with g0
    injection g1 with g1
    injection g2 with g2
    rw [g0] at c0
    rw [g1] at c1
    rw [g2] at c2
    exact ⟨c0, c1, c2⟩
theorem own_empty (w : World) (e : TypeId) (size base : Nat) (hb : base ≤ w.heap.size) : (w.alloc (.cells #[] e)).ownsRow base e size (.slice (some ⟨w.heap.size, 0, none⟩) 0 0) 0 [] := by
  refine ⟨by simp, .inr ⟨w.heap.size, 0, #[], rfl, hb, ?_, Nat.le_refl _, by simp [maxLen], by simp, by simp⟩⟩
  exact Own.new w e #[]
/-- A row that is new: the values of a row, in a block of the call's own. -/
def CloneTo (e : TypeId) (size n : Nat) (xs : List Value) (w : World) (en : Ending) (w' : World) : Prop :=
  ∃ A cap, en = .returned (.slice A n cap) ∧ w'.ownsRow w.heap.size e size (.slice A n cap) n xs ∧ Below w.heap.size w w'

set_option maxRecDepth 100000 in
set_option maxHeartbeats 1000000 in
theorem clonePds_any (a : Option Addr) (c : Nat) (xs : List Pv) (w : World) (hr : Row w a (pvCells xs)) (hm : xs.length ≤ 1048576) :
    Calls Try.prog 22 #[.slice a xs.length c] w (CloneTo 46 2 xs.length (pvCells xs) w) := by
  obtain ⟨i0, hi0, hz0, hz1, hz2⟩ := info_parts info43
  have HI := Lib.hid (And.intro hi0 (And.intro hz0 (And.intro hz1 hz2)))
  clear hi0 hz0 hz1 hz2
  cases a with
  | none =>
    have hx := hr.none_nil
    have : xs = [] := by
      cases xs with
      | nil => rfl
      | cons x r => cases hx
    subst this
    clear hr hx
    have q : ∀ (w : World) (a : Option Addr) (n c n' c' : Nat), (binOp .eql 23 (.slice a n c) (.slice none n' c')).run Try.prog w = .ok (.bool a.isNone) w := fun w a n c n' c' => Lib.run_eql_slice_nil w _ _ a n c n' c' Try.underlying23
    go_enter Try.func22, Try.ntmps22
    go_wp2
    go_ret
    exact ⟨none, 0, rfl, World.ownsRow_nil _ _ _ _, Below.refl _ _⟩
  | some ad =>
    have HR := Lib.hid hr
    clear hr
    have q : ∀ (w : World) (a : Option Addr) (n c n' c' : Nat), (binOp .eql 23 (.slice a n c) (.slice none n' c')).run Try.prog w = .ok (.bool a.isNone) w := fun w a n c n' c' => Lib.run_eql_slice_nil w _ _ a n c n' c' Try.underlying23
    go_enter Try.func22, Try.ntmps22
    go_wp2_with (at_builtin; refine wpList_append_own_at _ rfl _ _ 23 rfl w.heap.size 46 i0 (.agg #[.int .i64 0, .slice none 0 0]) 2 32 Try.underlying23 HI.out.1 HI.out.2.1 HI.out.2.2.1 HI.out.2.2.2 rfl (by decide) _ _ _ rfl (own_empty w 46 2 _ (Nat.le_refl _)) ad xs.length c (pvCells xs) rfl (pvCells_length xs) ?c1 ?c2 ?c3 ?c4 ?c5 ?_)
    case c1 => exact (HR.out.alloc _).news
    case c2 => exact pvCells_one xs
    case c3 => unfold maxLen; omega
    case c4 => omega
    case c5 => simp
    intro v' w4 hown' hgrow _ hblk
    obtain ⟨A', cap', rfl⟩ := own_form hown'
    have hb' : Below w.heap.size w w4 := (below_box _).grown hgrow (by simp) (fun k hk => by simp [Value.ownBlock] at hk; omega)
    go_wp2
    go_ret
    exact ⟨A', cap', rfl, hown', hb'⟩

set_option maxRecDepth 100000 in
set_option maxHeartbeats 1000000 in
theorem cloneSyms_any (a : Option Addr) (c : Nat) (ss : List Sy) (w : World) (hr : Row w a (symCells ss)) (hm : ss.length ≤ 1048576) :
    Calls Try.prog 43 #[.slice a ss.length c] w (CloneTo 49 3 ss.length (symCells ss) w) := by
  obtain ⟨i0, hi0, hz0, hz1, hz2⟩ := info_parts info46
  have HI := Lib.hid (And.intro hi0 (And.intro hz0 (And.intro hz1 hz2)))
  clear hi0 hz0 hz1 hz2
  cases a with
  | none =>
    have hx := hr.none_nil
    have : ss = [] := by
      cases ss with
      | nil => rfl
      | cons x r => cases hx
    subst this
    clear hr hx
    have q : ∀ (w : World) (a : Option Addr) (n c n' c' : Nat), (binOp .eql 44 (.slice a n c) (.slice none n' c')).run Try.prog w = .ok (.bool a.isNone) w := fun w a n c n' c' => Lib.run_eql_slice_nil w _ _ a n c n' c' Try.underlying44
    go_enter Try.func43, Try.ntmps43
    go_wp2
    go_ret
    exact ⟨none, 0, rfl, World.ownsRow_nil _ _ _ _, Below.refl _ _⟩
  | some ad =>
    have HR := Lib.hid hr
    clear hr
    have q : ∀ (w : World) (a : Option Addr) (n c n' c' : Nat), (binOp .eql 44 (.slice a n c) (.slice none n' c')).run Try.prog w = .ok (.bool a.isNone) w := fun w a n c n' c' => Lib.run_eql_slice_nil w _ _ a n c n' c' Try.underlying44
    go_enter Try.func43, Try.ntmps43
    go_wp2_with (at_builtin; refine wpList_append_own_at _ rfl _ _ 44 rfl w.heap.size 49 i0 (.agg #[.int .i64 0, .int .i64 0, .int .i64 0]) 3 24 Try.underlying44 HI.out.1 HI.out.2.1 HI.out.2.2.1 HI.out.2.2.2 rfl (by decide) _ _ _ rfl (own_empty w 49 3 _ (Nat.le_refl _)) ad ss.length c (symCells ss) rfl (symCells_length ss) ?c1 ?c2 ?c3 ?c4 ?c5 ?_)
    case c1 => exact (HR.out.alloc _).news
    case c2 => exact symCells_one ss
    case c3 => unfold maxLen; omega
    case c4 => omega
    case c5 => simp
    intro v' w4 hown' hgrow _ hblk
    obtain ⟨A', cap', rfl⟩ := own_form hown'
    have hb' : Below w.heap.size w w4 := (below_box _).grown hgrow (by simp) (fun k hk => by simp [Value.ownBlock] at hk; omega)
    go_wp2
    go_ret
    exact ⟨A', cap', rfl, hown', hb'⟩

end Go.Proofs.Ytkgiklmdpdakbaa

/- slices.IndexFunc and slices.DeleteFunc of productions. -/
namespace Go.Proofs.Ytkgiklmdpdakbaa
open Go.RowKit
set_option linter.unusedVariables false

theorem own_setN {w : World} {base : Nat} {e : TypeId} {size g n cap : Nat} {xs : List Value} (h : w.ownsRow base e size (.slice (some ⟨g, 0, none⟩) n cap) n xs) (i : Nat) (hi : i < n * size) (u : Value) :
    (w.setCell ⟨g, i, none⟩ u).ownsRow base e size (.slice (some ⟨g, 0, none⟩) n cap) n (xs.set i u) := by
  rcases h with ⟨hl, ⟨h0, _⟩ | ⟨g', cap', cur, h0, h1, h2, h3, h4, h5, h6⟩⟩
  · cases h0
  · injection h0 with a1 a2 a3
    injection a1 with a1
    injection a1 with a1
    subst a1 a3
    have ho : Own w g e cur.toList := by unfold Own; simpa using h2
    have ho2 := ho.set_ i u
    refine ⟨by simpa using hl, .inr ⟨g, cap, (cur.toList.set i u).toArray, rfl, h1, ho2, h3, h4, by simp [h5], ?_⟩⟩
    rw [← h6]
    rw [List.take_set]
/-- Cells that are written from a place on. -/
def putAll : List Value → Nat → List Value → List Value
  | xs, _, [] => xs
  | xs, o, v :: r => putAll (xs.set o v) (o + 1) r
theorem putAll_length : ∀ (vs xs : List Value) (o : Nat), (putAll xs o vs).length = xs.length
  | [], xs, o => rfl
  | v :: r, xs, o => by rw [putAll, putAll_length r]; simp
theorem putAll_take : ∀ (vs xs : List Value) (o k : Nat), k ≤ o → (putAll xs o vs).take k = xs.take k
  | [], xs, o, k, h => rfl
  | v :: r, xs, o, k, h => by
    rw [putAll, putAll_take r _ _ _ (by omega), List.take_set_of_le h]
theorem Own.putAll {g : Nat} {t : TypeId} : ∀ (vs xs : List Value) (o : Nat) (w : World), Own w g t xs → Own (w.setCells g o vs) g t (putAll xs o vs)
  | [], xs, o, w, h => h
  | v :: r, xs, o, w, h => Own.putAll r _ _ _ (h.set_ o v)
theorem fr_setCells {g : Nat} : ∀ (vs : List Value) (o : Nat) (w : World), Fr (fun k => k = g) (fun k => k = g) w (w.setCells g o vs)
  | [], o, w => Fr.refl _ _
  | v :: r, o, w => ((Fr.refl (fun k => k = g) w).setCell (p := ⟨g, o, none⟩) rfl v).trans (fr_setCells r (o + 1) _)

theorem zero43 (w : World) : (zeroValue 46).run Try.prog w = .ok (.agg #[.int .i64 0, .slice none 0 0]) w := by
  obtain ⟨i0, hi0, hz0, hz1, hz2⟩ := info_parts info43
  have hi : Try.prog.info? 46 = some Try.t46 := by kernel_rfl
  have e : Try.t46 = i0 := by rw [hi] at hi0; injection hi0
  unfold zeroValue
  simp [e, hz0]

theorem zeroCells_one (m : Nat) : ∀ v ∈ (Builtin.zeroCells #[(.int .i64 0 : Value), .slice none 0 0] m).toList, v.oneCell' = true := by
  intro v hv
  simp [Builtin.zeroCells] at hv
  obtain ⟨i, hi, rfl⟩ := hv
  have : i % 2 = 0 ∨ i % 2 = 1 := by omega
  rcases this with h | h <;> rw [h] <;> rfl

theorem run_clear2 {w : World} {base g n cap i c : Nat} {xs : List Value} (h : w.ownsRow base 46 2 (.slice (some ⟨g, 0, none⟩) n cap) n xs) (hi : i < n) :
    ∃ w', (∀ ty, (Builtin.clear_ #[23] ty #[.slice (some ⟨g, i * 2, none⟩) (n - i) c]).run Try.prog w = .ok (.tuple #[]) w') ∧ w'.ownsRow base 46 2 (.slice (some ⟨g, 0, none⟩) i cap) i (xs.take (i * 2)) ∧ Fr (fun k => k = g) (fun k => k = g) w w' := by
  rcases h with ⟨hl, ⟨h0, _⟩ | ⟨g', cap', cur, h0, h1, h2, h3, h4, h5, h6⟩⟩
  · cases h0
  · injection h0 with a1 a2 a3
    injection a1 with a1
    injection a1 with a1
    subst a1 a3
    have ho : Own w g 46 cur.toList := by unfold Own; simpa using h2
    have hzl : (Builtin.zeroCells #[(.int .i64 0 : Value), .slice none 0 0] (n - i)).toList.length = (n - i) * 2 := by simp [Builtin.zeroCells]
    have hcl : cur.toList.length = cap * 2 := by simpa using h5
    have hst := run_storeCells_cells (P := Try.prog) g (i * 2) (Builtin.zeroCells #[(.int .i64 0 : Value), .slice none 0 0] (n - i)).toList 0 w
      (fun j hj => by rw [hzl] at hj; rw [ho.cell_ (by omega)]; rfl) (fun j hj => ho.frozen _) (zeroCells_one _)
    simp only [Nat.add_zero] at hst
    refine ⟨_, fun ty => ?_, ?_, fr_setCells (Builtin.zeroCells #[(.int .i64 0 : Value), .slice none 0 0] (n - i)).toList (i * 2) w⟩
    · obtain ⟨m, hm⟩ : ∃ m, n - i = m + 1 := ⟨n - i - 1, by omega⟩
      rw [hm] at hst ⊢
      have hc : (Value.agg #[.int .i64 0, .slice none 0 0]).cells = #[.int .i64 0, .slice none 0 0] := rfl
      simp [Builtin.clear_, run_underlying Try.underlying23, hc, hst]
    · have ho2 := ho.putAll (Builtin.zeroCells #[(.int .i64 0 : Value), .slice none 0 0] (n - i)).toList cur.toList (i * 2) w
      refine ⟨by rw [List.length_take, hl]; omega, .inr ⟨g, cap, _, rfl, h1, ho2, by omega, h4, by simp [putAll_length, hcl], ?_⟩⟩
      rw [putAll_take _ _ _ _ (Nat.le_refl _), ← h6, List.take_take, Nat.min_eq_left (by omega)]

/-- What a function that is asked of each production must do, while some blocks may turn. -/
def Asked (F : Nat) (cp : Value) (del : Pd → Bool) (xs : List Pv) (G : Nat → Prop) (w : World) : Prop :=
  ∀ x ∈ xs, ∀ W, Fr G G w W → Calls Try.prog F #[.agg #[.int .i64 x.p.head, .slice x.K x.p.body.length x.kc], cp] W (fun e W' => e = .returned (.bool (del x.p)) ∧ Below W.heap.size W W')

/-- The place of the first production that is to go, or -1. -/
def FirstDel (del : Pd → Bool) (xs : List Pv) (r : Int) : Prop := (r = -1 ∧ ∀ x ∈ xs, del x.p = false) ∨ ∃ k : Nat, r = k ∧ ∃ h : k < xs.length, del xs[k].p = true ∧ ∀ j (h : j < xs.length), j < k → del xs[j].p = false

end Go.Proofs.Ytkgiklmdpdakbaa

