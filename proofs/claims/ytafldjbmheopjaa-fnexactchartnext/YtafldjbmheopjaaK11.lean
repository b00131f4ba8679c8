/- A list repeated: slices.Repeat of one number. -/
import Derived.Test.YtafldjbmheopjaaK10
import Derived.Laws.CopyOwn
namespace Go.Proofs.Ytafldjbmheopjaa
open Go.RowKit
set_option linter.unusedVariables false

theorem and_small : ∀ n : Fin 201, bits BinOp.and IntKind.u64 (n.val : Int) 4294967295 = n.val := by decide +kernel
theorem wrap_small : ∀ n : Fin 201, IntKind.u64.wrap (n.val : Int) = n.val := by decide +kernel
theorem wrap_smallI : ∀ n : Fin 201, IntKind.i64.wrap (n.val : Int) = n.val := by decide +kernel

set_option maxRecDepth 100000 in
set_option maxHeartbeats 1000000 in
theorem mul64_any (n : Nat) (w : World) (hn : n ≤ 200) :
    Calls Try.prog 94 #[.int .u64 1, .int .u64 (n : Int)] w fun e w' => e = .returned (.tuple #[.int .u64 0, .int .u64 (n : Int)]) ∧ w = w' := by
  have h1 : bits BinOp.and IntKind.u64 1 4294967295 = 1 := and_small ⟨1, by omega⟩
  have h0 : bits BinOp.and IntKind.u64 0 4294967295 = 0 := and_small ⟨0, by omega⟩
  have h2 : bits BinOp.and IntKind.u64 (n : Int) 4294967295 = n := and_small ⟨n, by omega⟩
  have h3 : (n : Int) / 4294967296 = 0 := by omega
  have h4 : IntKind.u64.wrap (n : Int) = n := wrap_small ⟨n, by omega⟩
  have h5 : IntKind.u64.wrap 0 = 0 := wrap_small ⟨0, by omega⟩
  go_enter Try.func94, Try.ntmps94
  go_wp2
  go_ret2
  exact ⟨rfl, rfl⟩

set_option maxRecDepth 100000 in
set_option maxHeartbeats 1000000 in
theorem mul_any (n : Nat) (w : World) (hn : n ≤ 200) :
    Calls Try.prog 89 #[.int .u64 1, .int .u64 (n : Int)] w fun e w' => e = .returned (.tuple #[.int .u64 0, .int .u64 (n : Int)]) ∧ w = w' := by
  have h4 : IntKind.u64.wrap (n : Int) = n := wrap_small ⟨n, by omega⟩
  go_enter Try.func89, Try.ntmps89
  go_wp2_with fail
  refine (mul64_any n _ hn).mono ?_
  rintro e w1 ⟨rfl, rfl⟩
  go_wp2
  go_ret2
  exact ⟨rfl, rfl⟩

/-- So many of one, and so many of another behind. -/
def two (x z : Value) (k m : Nat) : List Value := List.replicate k x ++ List.replicate m z
theorem two_len (x z : Value) (k m : Nat) : (two x z k m).length = k + m := by simp [two]
theorem two_splice (x z : Value) (k m c : Nat) (h : c ≤ m) : splice (two x z k m) k (List.replicate c x) = two x z (k + c) (m - c) := by
  unfold splice two
  rw [List.take_left' (by simp), List.length_replicate, List.drop_append, List.length_replicate]
  simp only [List.drop_replicate, Nat.add_sub_cancel_left]
  rw [show k - (k + c) = 0 by omega, List.replicate_zero, List.nil_append, ← List.append_assoc, List.replicate_append_replicate]
theorem two_get (x z : Value) (k m j : Nat) (h : j < k) : (two x z k m)[j]? = some x := by
  unfold two
  rw [List.getElem?_append_left (by simpa using h), List.getElem?_replicate, if_pos h]

def RepPost (n : Nat) (x : Int) (w : World) (e : Ending) (w' : World) : Prop :=
  ∃ g, e = .returned (.slice (some ⟨g, 0, none⟩) n n) ∧ w.heap.size ≤ g ∧ Own w' g 3 (List.replicate n (.int .i64 x)) ∧ Below w.heap.size w w'

theorem size3 : (Try.prog.info? 3).map (·.size) = some 1 := by kernel_rfl

set_option maxRecDepth 100000 in
set_option maxHeartbeats 2000000 in
theorem repeat_any (n xb : Nat) (x : Int) (w : World) (hx : w.cell? ⟨xb, 0, none⟩ = some (.int .i64 x)) (h1 : 1 ≤ n) (h2 : n ≤ 200) :
    Calls Try.prog 83 #[.slice (some ⟨xb, 0, none⟩) 1 1, .int .i64 (n : Int)] w (RepPost n x w) := by
  have h4 : IntKind.u64.wrap (n : Int) = n := wrap_small ⟨n, by omega⟩
  have h5 : IntKind.u64.wrap 1 = 1 := wrap_small ⟨1, by omega⟩
  have h6 : IntKind.i64.wrap (n : Int) = n := wrap_smallI ⟨n, by omega⟩
  have hmk := run_make_row' (P := Try.prog) 81 3 (.int .i64 0) 8 Try.underlying81 info3 rfl .i64 .i64 n (by omega) (by omega)
  have hn0 : ¬ (n : Int) < 0 := by omega
  go_enter Try.func83, Try.ntmps83
  go_wp2_with fail
  refine (mul_any n _ h2).mono ?_
  rintro e w1 ⟨rfl, rfl⟩
  have hO : Own (w.alloc (.cells (madeCells #[.int .i64 0] n) 3)) w.heap.size 3 (two (.int .i64 x) (.int .i64 0) 0 n) := by
    have := Own.made w 3 (.int .i64 0) n
    simpa [two] using this
  have hb : Below w.heap.size w (w.alloc (.cells (madeCells #[.int .i64 0] n) 3)) := below_box _
  have hx' := cell_keep hb hx
  have HO := Lib.hid hO
  have HB := Lib.hid hb
  clear hO hb
  have hnw : (n : Int) ≤ 9223372036854775807 := by omega
  go_wp2_with ((with_reducible show wpList _ _ _ (⟨some 33, _, _, _, _, _⟩ :: _) _ _); refine wpList_copy_splice rfl (.tmp 31) (.tmp 32) 81 81 rfl 3 Try.underlying81 size3 _ _ _ _ _ _ rfl rfl w.heap.size 0 (two (.int .i64 x) (.int .i64 0) 0 n) 3 HO.out (List.replicate 1 (.int .i64 x)) ?c1 ?c2 ?c3 ?c4 w.heap.size w HB.out (Nat.le_refl _) ?_)
  case c1 => rw [List.length_replicate]; exact (Nat.min_eq_left (by omega)).symm
  case c2 =>
    intro j v hj
    have : j = 0 := by
      rcases Nat.lt_or_ge j 1 with h | h
      · omega
      · rw [List.getElem?_eq_none (by simpa using h)] at hj
        cases hj
    subst this
    simp at hj
    subst hj
    exact hx'
  case c3 => rw [two_len]; simp; omega
  case c4 => intro v hv; simp at hv; subst hv; rfl
  · intro w2 HG2 hb2
    have hO2 : Hid (Own w2 w.heap.size 3 (two (.int .i64 x) (.int .i64 0) 1 (n - 1))) := by
      have h := HG2.out
      rw [show ([.int .i64 x] : List Value) = List.replicate 1 (.int .i64 x) from rfl, two_splice _ _ _ _ _ (by omega)] at h
      exact h
    clear HG2 HO HB hx hx' hmk
    go_wp2
    go_loopw [8] (fun i wr => ∃ k : Nat, 1 ≤ k ∧ k ≤ n ∧ i = .int .i64 k ∧ Hid (Own wr w.heap.size 3 (two (.int .i64 x) (.int .i64 0) k (n - k))) ∧ Below w.heap.size w wr) (fun i _ => n - (intOf i).toNat)
    case atStart => exact ⟨1, by omega, by omega, rfl, hO2, hb2⟩
    case round =>
      clear hO2 hb2
      obtain ⟨k, hk1, hk2, rfl, hO2, hb2⟩ := hrel
      by_cases hlt : k < n
      · have hlt' : (k : Int) < (n : Int) := by omega
        obtain ⟨c, hc⟩ : ∃ c, c = Nat.min k (n - k) := ⟨_, rfl⟩
        have hc1 : 1 ≤ c := by rw [hc]; exact Nat.le_min.2 ⟨by omega, by omega⟩
        have hc2 : c ≤ k := by rw [hc]; exact Nat.min_le_left _ _
        have hc3 : c ≤ n - k := by rw [hc]; exact Nat.min_le_right _ _
        have HC := Lib.hid hc
        have hwkc : IntKind.i64.wrap ((k : Int) + (c : Int)) = (k : Int) + (c : Int) := IntWalk.i64_in _ (by omega)
        clear hc
        go_wp2_with fail
        have hkn : k ≤ n := by omega
        have hkne : k ≠ n := by omega
        refine wp_region_held_drew (S := fun _ => True) (by kernel_rfl) trivial (fun hHeld => ?_)
        (first
          | (refine held_take (i := 0) (v := ?_) rfl (by kernel_rfl) (by kernel_rfl) (by kernel_rfl) (fun _ _ _ h => h) (Or.inl ⟨rfl, ?_⟩) (by assumption) ?_; rotate_left; (intro X hSw; (try dsimp only at hSw); (go_simp <;> with_reducible rfl)))
          | (refine held_take (i := 0) (v := undef) rfl (by kernel_rfl) (by kernel_rfl) (by kernel_rfl) (fun _ _ _ h => h) (Or.inr ⟨rfl, rfl⟩) (by assumption) ?_)); simp only [Act.put, List.setIfInBounds_toArray, List.set_cons_zero, List.set_cons_succ]
        (first
          | (refine held_take (i := 1) (v := ?_) rfl (by kernel_rfl) (by kernel_rfl) (by kernel_rfl) (fun _ _ _ h => h) (Or.inl ⟨rfl, ?_⟩) (by assumption) ?_; rotate_left; (intro X hSw; (try dsimp only at hSw); (go_simp <;> with_reducible rfl)))
          | (refine held_take (i := 1) (v := undef) rfl (by kernel_rfl) (by kernel_rfl) (by kernel_rfl) (fun _ _ _ h => h) (Or.inr ⟨rfl, rfl⟩) (by assumption) ?_)); simp only [Act.put, List.setIfInBounds_toArray, List.set_cons_zero, List.set_cons_succ]
        (first
          | (refine held_take (i := 2) (v := ?_) rfl (by kernel_rfl) (by kernel_rfl) (by kernel_rfl) (fun _ _ _ h => h) (Or.inl ⟨rfl, ?_⟩) (by assumption) ?_; rotate_left; (intro X hSw; (try dsimp only at hSw); (go_simp <;> with_reducible rfl)))
          | (refine held_take (i := 2) (v := undef) rfl (by kernel_rfl) (by kernel_rfl) (by kernel_rfl) (fun _ _ _ h => h) (Or.inr ⟨rfl, rfl⟩) (by assumption) ?_)); simp only [Act.put, List.setIfInBounds_toArray, List.set_cons_zero, List.set_cons_succ]
        (first
          | (refine held_take (i := 3) (v := ?_) rfl (by kernel_rfl) (by kernel_rfl) (by kernel_rfl) (fun _ _ _ h => h) (Or.inl ⟨rfl, ?_⟩) (by assumption) ?_; rotate_left; (intro X hSw; (try dsimp only at hSw); (go_simp <;> with_reducible rfl)))
          | (refine held_take (i := 3) (v := undef) rfl (by kernel_rfl) (by kernel_rfl) (by kernel_rfl) (fun _ _ _ h => h) (Or.inr ⟨rfl, rfl⟩) (by assumption) ?_)); simp only [Act.put, List.setIfInBounds_toArray, List.set_cons_zero, List.set_cons_succ]
        (first
          | (refine held_take (i := 4) (v := ?_) rfl (by kernel_rfl) (by kernel_rfl) (by kernel_rfl) (fun _ _ _ h => h) (Or.inl ⟨rfl, ?_⟩) (by assumption) ?_; rotate_left; (intro X hSw; (try dsimp only at hSw); (go_simp <;> with_reducible rfl)))
          | (refine held_take (i := 4) (v := undef) rfl (by kernel_rfl) (by kernel_rfl) (by kernel_rfl) (fun _ _ _ h => h) (Or.inr ⟨rfl, rfl⟩) (by assumption) ?_)); simp only [Act.put, List.setIfInBounds_toArray, List.set_cons_zero, List.set_cons_succ]
        (first
          | (refine held_take (i := 5) (v := ?_) rfl (by kernel_rfl) (by kernel_rfl) (by kernel_rfl) (fun _ _ _ h => h) (Or.inl ⟨rfl, ?_⟩) (by assumption) ?_; rotate_left; (intro X hSw; (try dsimp only at hSw); (go_simp <;> with_reducible rfl)))
          | (refine held_take (i := 5) (v := undef) rfl (by kernel_rfl) (by kernel_rfl) (by kernel_rfl) (fun _ _ _ h => h) (Or.inr ⟨rfl, rfl⟩) (by assumption) ?_)); simp only [Act.put, List.setIfInBounds_toArray, List.set_cons_zero, List.set_cons_succ]
        (first
          | (refine held_take (i := 6) (v := ?_) rfl (by kernel_rfl) (by kernel_rfl) (by kernel_rfl) (fun _ _ _ h => h) (Or.inl ⟨rfl, ?_⟩) (by assumption) ?_; rotate_left; (intro X hSw; (try dsimp only at hSw); (go_simp <;> with_reducible rfl)))
          | (refine held_take (i := 6) (v := undef) rfl (by kernel_rfl) (by kernel_rfl) (by kernel_rfl) (fun _ _ _ h => h) (Or.inr ⟨rfl, rfl⟩) (by assumption) ?_)); simp only [Act.put, List.setIfInBounds_toArray, List.set_cons_zero, List.set_cons_succ]
        refine wpAnyH_ready (rs := [7]) (by kernel_rfl) (by simp) ?_
        refine AllReadyH.cons rfl (fun K hK => ?_) AllReadyH.nil
        refine step_copy_splice rfl (.tmp 41) (.tmp 44) 81 81 rfl 3 Try.underlying81 size3 _ _ _ _ _ _ rfl rfl w.heap.size k (two (.int .i64 x) (.int .i64 0) k (n - k)) 3 hO2.out.drew (List.replicate c (.int .i64 x)) ?d1 ?d2 ?d3 ?d4 w.heap.size w hb2.drew (Nat.le_refl _) ?_
        case d1 => rw [List.length_replicate]; exact HC.out
        case d2 =>
          intro _
          refine ⟨by rw [if_neg (by omega)], _, rfl, ?_⟩
          intro j v hj
          have hjc : j < c := by
            rcases Nat.lt_or_ge j c with h | h
            · exact h
            · rw [List.getElem?_eq_none (by simpa using h)] at hj
              cases hj
          rw [List.getElem?_replicate, if_pos hjc] at hj
          have e1 : (Addr.add ⟨w.heap.size, 0, none⟩ j) = ⟨w.heap.size, j, none⟩ := by unfold Addr.add; split <;> simp_all
          rw [e1]
          have := hO2.out.drew.cell j
          rw [this, two_get _ _ _ _ _ (by omega)]
          exact hj
        case d3 => rw [two_len, List.length_replicate]; omega
        case d4 => intro v hv; rw [(List.mem_replicate.1 hv).2]; rfl
        intro w4 HG4 hb4
        have hO4 : Hid (Own w4 w.heap.size 3 (two (.int .i64 x) (.int .i64 0) (k + c) (n - (k + c)))) := by
          have h := HG4.out
          rw [two_splice _ _ _ _ _ hc3, show n - k - c = n - (k + c) by omega] at h
          exact h
        clear HG4 hO2 hb2
        refine hK.out _ _ trivial (fun hHeld => ?_)
        clear hK K
        rw [List.length_replicate]
        (first
          | (refine held_take (i := 8) (v := ?_) rfl (by kernel_rfl) (by kernel_rfl) (by kernel_rfl) (fun _ _ _ h => h) (Or.inl ⟨rfl, ?_⟩) (by assumption) ?_; rotate_left; (intro X hSw; (try dsimp only at hSw); (go_simp <;> with_reducible rfl)))
          | (refine held_take (i := 8) (v := undef) rfl (by kernel_rfl) (by kernel_rfl) (by kernel_rfl) (fun _ _ _ h => h) (Or.inr ⟨rfl, rfl⟩) (by assumption) ?_)); simp only [Act.put, List.setIfInBounds_toArray]
        (first
          | (refine held_take (i := 9) (v := ?_) rfl (by kernel_rfl) (by kernel_rfl) (by kernel_rfl) (fun _ _ _ h => h) (Or.inl ⟨rfl, ?_⟩) (by assumption) ?_; rotate_left; (intro X hSw; (try dsimp only at hSw); (go_simp <;> with_reducible rfl)))
          | (refine held_take (i := 9) (v := undef) rfl (by kernel_rfl) (by kernel_rfl) (by kernel_rfl) (fun _ _ _ h => h) (Or.inr ⟨rfl, rfl⟩) (by assumption) ?_)); simp only [Act.put]
        refine wpAnyH_done (by kernel_rfl) ?_ _
        go_wp2
        go_roundw
        case rel => exact ⟨k + c, by omega, by omega, by omega, hO4⟩
        case measure => simp [intOf]; omega
      · obtain rfl : k = n := by omega
        have hlt' : ¬ (k : Int) < (k : Int) := by omega
        go_wp2
        go_ret
        refine ⟨_, rfl, Nat.le_refl _, ?_, hb2⟩
        have h := hO2.out
        simpa [two] using h

end Go.Proofs.Ytafldjbmheopjaa
