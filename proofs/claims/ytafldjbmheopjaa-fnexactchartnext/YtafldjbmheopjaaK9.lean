/- For each head the productions that have it in their bodies: impl.usersOf. -/
import Derived.Test.YtafldjbmheopjaaK8
namespace Go.Proofs.Ytafldjbmheopjaa
open Go.RowKit
set_option linter.unusedVariables false

theorem info33 : (Try.prog.info? 81).map (fun i => (i.zero, i.size, i.bytes)) = some (some (.slice none 0 0), 1, 24) := by kernel_rfl

/-- What is known of the rows when so many productions are through. -/
structure UK (n : Nat) (ps : List Pd) (us : Nat → List Nat) (k b : Nat) : Prop where
  has : ∀ h, h < n → ∀ j (hj : j < ps.length), j < k → (∃ s ∈ ps[j].body, s.head = h) → j ∈ us h
  lt : ∀ h, h < n → ∀ j ∈ us h, j < ps.length
  len : ∀ h, h < n → (us h).length ≤ b

def UsersPost (n : Nat) (ps : List Pd) (w : World) (e : Ending) (w' : World) : Prop :=
  ∃ U val us, e = .returned (.slice (some ⟨U, 0, none⟩) n n) ∧ UO w.heap.size U n val us w' ∧ UK n ps us ps.length 64000 ∧ Below w.heap.size w w'

theorem UO.base {base base' U n : Nat} {val : Nat → Value} {us : Nat → List Nat} {w : World} (h : UO base U n val us w) (hb : base' ≤ base) : UO base' U n val us w :=
  ⟨h.row, Nat.le_trans hb h.bU, fun i hi => own_base (h.own i hi) hb, h.apt⟩

theorem mem_updL {us : Nat → List Nat} {q x : Nat} {p j : Nat} (h : j ∈ us p) : j ∈ updL us q (us q ++ [x]) p := by
  unfold updL
  split
  · rename_i e; subst e; exact List.mem_append_left _ h
  · exact h
theorem mem_updL_self {us : Nat → List Nat} {q x : Nat} : x ∈ updL us q (us q ++ [x]) q := by
  unfold updL
  rw [if_pos rfl]
  exact List.mem_append_right _ (List.mem_singleton.2 rfl)
theorem UK.app {n : Nat} {ps : List Pd} {us : Nat → List Nat} {k b q x : Nat} (h : UK n ps us k b) (hx : x < ps.length) (hq : q < n) : UK n ps (updL us q (us q ++ [x])) k (b + 1) := by
  refine ⟨fun h' hh j hj hk hs => mem_updL (h.has h' hh j hj hk hs), fun h' hh j hj => ?_, fun h' hh => ?_⟩
  · unfold updL at hj
    split at hj
    · rcases List.mem_append.1 hj with h1 | h1
      · exact h.lt q hq j h1
      · rw [List.mem_singleton.1 h1]; exact hx
    · exact h.lt h' hh j hj
  · unfold updL
    split
    · have := h.len q hq; simp; omega
    · have := h.len h' hh; omega
theorem UK.up {n : Nat} {ps : List Pd} {us : Nat → List Nat} {k b b' : Nat} (h : UK n ps us k b) (hb : b ≤ b') : UK n ps us k b' := ⟨h.has, h.lt, fun h' hh => Nat.le_trans (h.len h' hh) hb⟩

set_option maxRecDepth 100000 in
set_option maxHeartbeats 4000000 in
theorem usersOf_any (n : Nat) (ps : List Pd) (a : Option Addr) (c : Nat) (w : World) (hr : Pds w a ps) (hfit : Fit n ps) (hp : ps.length ≤ 400) (hn0 : 1 ≤ n) (hn2 : n ≤ 200) :
    Calls Try.prog 90 #[.agg #[.int .i64 (n : Int), .slice a ps.length c]] w (UsersPost n ps w) := by
  have HR := Lib.hid hr
  have HF := Lib.hid hfit
  clear hr hfit
  obtain ⟨i0, hi0, hz0, hz1, hz2⟩ := info_parts info3
  have HI := Lib.hid (And.intro hi0 (And.intro hz0 (And.intro hz1 hz2)))
  clear hi0 hz0 hz1 hz2
  have hmk := run_make_row' (P := Try.prog) 88 81 (.slice none 0 0) 24 Try.underlying88 info33 rfl .i64 .i64 n (by omega) (by omega)
  go_enter Try.func90, Try.ntmps90
  go_wp2
  clear hmk
  have hbx : Below w.heap.size w (w.alloc (.cells #[.int .i64 (n : Int), .slice a ps.length c] 33)) := below_box _
  have hW : (w.alloc (.cells #[.int .i64 (n : Int), .slice a ps.length c] 33)).heap.size = w.heap.size + 1 := by simp
  have hmade := Own.made (w.alloc (.cells #[.int .i64 (n : Int), .slice a ps.length c] 33)) 81 (.slice none 0 0) n
  have hb1 : Below (w.alloc (.cells #[.int .i64 (n : Int), .slice a ps.length c] 33)).heap.size (w.alloc (.cells #[.int .i64 (n : Int), .slice a ps.length c] 33)) ((w.alloc (.cells #[.int .i64 (n : Int), .slice a ps.length c] 33)).alloc (.cells (madeCells #[.slice none 0 0] n) 81)) := below_box _
  have HR1 := Lib.hid (HR.out.keep hbx)
  generalize w.alloc (.cells #[.int .i64 (n : Int), .slice a ps.length c] 33) = W at *
  rw [hW] at hmade
  generalize hw1 : W.alloc (.cells (madeCells #[.slice none 0 0] n) 81) = w1 at *
  clear hw1
  have hUO : UO W.heap.size (w.heap.size + 1) n (fun _ => .slice none 0 0) (fun _ => []) w1 := by
    refine ⟨?_, by omega, fun i hi => World.ownsRow_nil _ _ _ _, fun i j b _ _ _ e => ?_⟩
    · have e : (List.range n).map (fun _ => (.slice none 0 0 : Value)) = List.replicate n (.slice none 0 0) := List.ext_getElem (by simp) (fun i h1 h2 => by simp)
      rw [e]; exact hmade
    · have e' : (none : Option Nat) = some b := e
      cases e'
  have hUK : UK n ps (fun _ => []) 0 0 := ⟨fun h _ j _ hj => by omega, (fun h _ j hj => by cases hj), fun h _ => Nat.le_refl _⟩
  have HBX := Lib.hid hbx
  have HW := Lib.hid hW
  clear hbx hW hmade
  go_loopw [14] (fun i wr => ∃ k : Nat, k ≤ ps.length ∧ i = .int .i64 k ∧ ∃ val us, UO W.heap.size (w.heap.size + 1) n val us wr ∧ Hid (UK n ps us k (k * 160)) ∧ Below W.heap.size W wr) (fun i _ => ps.length - (intOf i).toNat)
  case atStart => exact ⟨0, Nat.zero_le _, rfl, _, _, hUO, hUK, hb1⟩
  case round =>
    clear hUO hUK hb1
    obtain ⟨k, hk, rfl, val, us, hUO, HUK, hb⟩ := hrel
    by_cases hlt : k < ps.length
    · obtain ⟨b, off, rfl, K, kc, hnW⟩ := HR1.out.at_ hlt
      have hn := hnW.keep hb
      have HSYW := Lib.hid hnW.k
      clear hnW
      have hlt' : (k : Int) < (ps.length : Int) := by omega
      have hmem := List.getElem_mem hlt
      have HFP := Lib.hid (HF.out _ hmem)
      have HNX : Hid (∀ us', UK n ps us' k (k * 160 + 160) → (∀ h, h < n → (∃ s ∈ ps[k].body, s.head = h) → k ∈ us' h) → UK n ps us' (k + 1) ((k + 1) * 160)) := fun us' h1 h2 => by
        refine ⟨fun h hh j hj hjk hs => ?_, h1.lt, fun h hh => by have := h1.len h hh; omega⟩
        rcases Nat.lt_succ_iff_lt_or_eq.1 hjk with h3 | h3
        · exact h1.has h hh j hj h3 hs
        · subst h3; exact h2 h hh hs
      have c0 := hn.c0
      have c1 := hn.c1
      generalize ps[k] = p at *
      have hp160 := HFP.out.2.2.1
      have hUO1 := hUO.keep (below_box (.cells #[.int .i64 p.head, .slice K p.body.length kc] 57))
      have hb1 := hb.alloc hb.size (.cells #[.int .i64 p.head, .slice K p.body.length kc] 57)
      have d1 : (wr.alloc (.cells #[.int .i64 p.head, .slice K p.body.length kc] 57)).cell? ⟨wr.heap.size, 1, none⟩ = some (.slice K p.body.length kc) := by simp
      clear hn hUO hmem
      go_wp2
      clear c0 c1 d1 hb
      generalize wr.alloc (.cells #[.int .i64 p.head, .slice K p.body.length kc] 57) = W2 at *
      go_loopw [22] (fun i wr => ∃ m : Nat, m ≤ p.body.length ∧ i = .int .i64 m ∧ ∃ val us, UO W.heap.size (w.heap.size + 1) n val us wr ∧ Hid (UK n ps us k (k * 160 + m)) ∧ Hid (∀ i (h : i < p.body.length), i < m → ∀ h', p.body[i].head = ((h' : Nat) : Int) → h' < n → k ∈ us h') ∧ Below W.heap.size W wr) (fun i _ => p.body.length - (intOf i).toNat)
      case atStart => exact ⟨0, Nat.zero_le _, rfl, _, _, hUO1, HUK, fun i _ hi => by omega, hb1⟩
      case round =>
        clear hUO1 HUK hb1
        obtain ⟨m, hm, rfl, val, us, hUO, HUK, HM, hb⟩ := hrel
        by_cases hml : m < p.body.length
        · have hml' : (m : Int) < (p.body.length : Int) := by omega
          have hin := HFP.out.2.2.2 _ (List.getElem_mem hml)
          obtain ⟨kb, ko, rfl, hs0⟩ := (HSYW.out.keep hb).at_ hml
          have HMX : Hid (∀ us' : Nat → List Nat, (∀ h j, j ∈ us h → j ∈ us' h) → (∀ h' : Nat, p.body[m].head = (h' : Int) → h' < n → k ∈ us' h') → ∀ i (h : i < p.body.length), i < m + 1 → ∀ h', p.body[i].head = ((h' : Nat) : Int) → h' < n → k ∈ us' h') := fun us' h1 h2 i hi him h' e hh => by
            rcases Nat.lt_succ_iff_lt_or_eq.1 him with h3 | h3
            · exact h1 h' k (HM.out i hi h3 h' e hh)
            · subst h3; exact h2 h' e hh
          obtain ⟨s0, s1, s2⟩ := hs0
          generalize p.body[m] = s at *
          by_cases e : s.head = -1
          · have e' : (s.head != -1) = false := by simp [e]
            have HM2 := Lib.hid (HMX.out us (fun _ _ h => h) (fun h' e2 _ => by omega))
            have HUK2 : Hid (UK n ps us k (k * 160 + (m + 1))) := HUK.out.up (by omega)
            have hUO2 := hUO.keep (below_box (.cells #[.int .i64 s.head, .int .i64 s.low, .int .i64 s.high] 68))
            have hb2 := hb.alloc hb.size (.cells #[.int .i64 s.head, .int .i64 s.low, .int .i64 s.high] 68)
            have E := Lib.hid e
            clear e hin HMX HM HUK hUO hb
            go_wp2
            go_roundw
            case rel => exact ⟨m + 1, by omega, by go_num, _, _, hUO2, HUK2, HM2, hb2⟩
            case measure => simp [intOf]; omega
          · obtain ⟨x, hx⟩ : ∃ x : Nat, s.head = x := ⟨s.head.toNat, by omega⟩
            have hxn : x < n := by omega
            have hxn' : (x : Int) < (n : Int) := by omega
            have HXH := Lib.hid hx
            rw [hx] at s0
            have e' : ((x : Int) != -1) = true := by simp
            clear e hin hx
            have hUO2 := hUO.keep (below_box (.cells #[.int .i64 (x : Int), .int .i64 s.low, .int .i64 s.high] 68))
            have hb2 := hb.alloc hb.size (.cells #[.int .i64 (x : Int), .int .i64 s.low, .int .i64 s.high] 68)
            have hcx := hUO.cell hxn
            have hox := hUO.own x hxn
            have hlx := HUK.out.len x hxn
            obtain ⟨A, ac, hv⟩ := own_form hox
            rw [hv] at hcx hox
            have hUl := hUO.row.lt
            have HV := Lib.hid hv
            clear hUO hb hv
            go_wp2_with fail
            refine (endsWith_any (us x) k A ac _ ((own_row hox).keep (below_box _)) (by omega)).mono ?_
            rintro e w3 ⟨rfl, rfl⟩
            cases qe : endsB (us x) k
            · have hq0 : (wr.alloc (.cells #[.int .i64 (x : Int), .int .i64 s.low, .int .i64 s.high] 68)).cell? ⟨wr.heap.size, 0, none⟩ = some (.int .i64 (x : Int)) := by simp
              have hcx2 : (wr.alloc (.cells #[.int .i64 (x : Int), .int .i64 s.low, .int .i64 s.high] 68)).cell? ⟨w.heap.size + 1, x, none⟩ = some (.slice A (us x).length ac) := cell_alloc hcx _
              have HSZ : Hid ((wr.alloc (.cells #[.int .i64 (x : Int), .int .i64 s.low, .int .i64 s.high] 68)).heap.size = wr.heap.size + 1) := by show _ = _; simp
              have hox2 := own_keep hox (below_box (.cells #[.int .i64 (x : Int), .int .i64 s.low, .int .i64 s.high] 68))
              have HNE : Hid ((Value.slice A (us x).length ac).ownBlock ≠ some wr.heap.size) := fun e => by have := (hox.lt _ e).2; omega
              have HUO2 := Lib.hid hUO2
              have HB2 := Lib.hid hb2
              clear hcx hox s0 s1 s2 hUO2 hb2
              go_wp2_with fail
              generalize wr.alloc (.cells #[.int .i64 (x : Int), .int .i64 s.low, .int .i64 s.high] 68) = W3 at *
              refine wp_region_held_drew (S := fun X => X.cell? ⟨wr.heap.size, 0, none⟩ = some (.int .i64 (x : Int))) (by kernel_rfl) ?_ (fun hHeld => ?_)
              · exact hq0
              (first
                | (refine held_take (i := 0) (v := ?_) rfl (by kernel_rfl) (by kernel_rfl) (by kernel_rfl) (fun _ _ _ h => h) (Or.inl ⟨rfl, ?_⟩) (by assumption) ?_; rotate_left; (intro X hSw; (try dsimp only at hSw); (go_simp <;> with_reducible rfl)))
                | (refine held_take (i := 0) (v := undef) rfl (by kernel_rfl) (by kernel_rfl) (by kernel_rfl) (fun _ _ _ h => h) (Or.inr ⟨rfl, rfl⟩) (by assumption) ?_)); simp only [Act.put, List.setIfInBounds_toArray, List.set_cons_zero, List.set_cons_succ]
              (first
                | (refine held_take (i := 1) (v := ?_) rfl (by kernel_rfl) (by kernel_rfl) (by kernel_rfl) (fun _ _ _ h => h) (Or.inl ⟨rfl, ?_⟩) (by assumption) ?_; rotate_left; (intro X hSw; (try dsimp only at hSw); (go_simp <;> with_reducible rfl)))
                | (refine held_take (i := 1) (v := undef) rfl (by kernel_rfl) (by kernel_rfl) (by kernel_rfl) (fun _ _ _ h => h) (Or.inr ⟨rfl, rfl⟩) (by assumption) ?_)); simp only [Act.put, List.setIfInBounds_toArray, List.set_cons_zero, List.set_cons_succ]
              (first
                | (refine held_take (i := 2) (v := ?_) rfl (by kernel_rfl) (by kernel_rfl) (by kernel_rfl) (fun _ _ _ h => h) (Or.inl ⟨rfl, ?_⟩) (by assumption) ?_; rotate_left; (intro X hSw; (try dsimp only at hSw); (go_simp <;> with_reducible rfl)))
                | (refine held_take (i := 2) (v := undef) rfl (by kernel_rfl) (by kernel_rfl) (by kernel_rfl) (fun _ _ _ h => h) (Or.inr ⟨rfl, rfl⟩) (by assumption) ?_)); simp only [Act.put, List.setIfInBounds_toArray, List.set_cons_zero, List.set_cons_succ]
              (first
                | (refine held_take (i := 3) (v := ?_) rfl (by kernel_rfl) (by kernel_rfl) (by kernel_rfl) (fun _ _ _ h => h) (Or.inl ⟨rfl, ?_⟩) (by assumption) ?_; rotate_left; (intro X hSw; (try dsimp only at hSw); (go_simp <;> with_reducible rfl)))
                | (refine held_take (i := 3) (v := undef) rfl (by kernel_rfl) (by kernel_rfl) (by kernel_rfl) (fun _ _ _ h => h) (Or.inr ⟨rfl, rfl⟩) (by assumption) ?_)); simp only [Act.put, List.setIfInBounds_toArray, List.set_cons_zero, List.set_cons_succ]
              (first
                | (refine held_take (i := 4) (v := ?_) rfl (by kernel_rfl) (by kernel_rfl) (by kernel_rfl) (fun _ _ _ h => h) (Or.inl ⟨rfl, ?_⟩) (by assumption) ?_; rotate_left; (intro X hSw; (try dsimp only at hSw); (go_simp <;> with_reducible rfl)))
                | (refine held_take (i := 4) (v := undef) rfl (by kernel_rfl) (by kernel_rfl) (by kernel_rfl) (fun _ _ _ h => h) (Or.inr ⟨rfl, rfl⟩) (by assumption) ?_)); simp only [Act.put, List.setIfInBounds_toArray, List.set_cons_zero, List.set_cons_succ]
              (first
                | (refine held_take (i := 5) (v := ?_) rfl (by kernel_rfl) (by kernel_rfl) (by kernel_rfl) (fun _ _ _ h => h) (Or.inl ⟨rfl, ?_⟩) (by assumption) ?_; rotate_left; (intro X hSw; (try dsimp only at hSw); (go_simp <;> with_reducible rfl)))
                | (refine held_take (i := 5) (v := undef) rfl (by kernel_rfl) (by kernel_rfl) (by kernel_rfl) (fun _ _ _ h => h) (Or.inr ⟨rfl, rfl⟩) (by assumption) ?_)); simp only [Act.put, List.setIfInBounds_toArray, List.set_cons_zero, List.set_cons_succ]
              (first
                | (refine held_take (i := 6) (v := ?_) rfl (by kernel_rfl) (by kernel_rfl) (by kernel_rfl) (fun _ _ _ h => h) (Or.inl ⟨rfl, ?_⟩) (by assumption) ?_; rotate_left; (intro X hSw; (try dsimp only at hSw); (go_simp <;> with_reducible rfl)))
                | (refine held_take (i := 6) (v := undef) rfl (by kernel_rfl) (by kernel_rfl) (by kernel_rfl) (fun _ _ _ h => h) (Or.inr ⟨rfl, rfl⟩) (by assumption) ?_)); simp only [Act.put, List.setIfInBounds_toArray, List.set_cons_zero, List.set_cons_succ]
              (first
                | (refine held_take (i := 8) (v := ?_) rfl (by kernel_rfl) (by kernel_rfl) (by kernel_rfl) (fun _ _ _ h => h) (Or.inl ⟨rfl, ?_⟩) (by assumption) ?_; rotate_left; (intro X hSw; (try dsimp only at hSw); (go_simp <;> with_reducible rfl)))
                | (refine held_take (i := 8) (v := undef) rfl (by kernel_rfl) (by kernel_rfl) (by kernel_rfl) (fun _ _ _ h => h) (Or.inr ⟨rfl, rfl⟩) (by assumption) ?_)); simp only [Act.put, List.setIfInBounds_toArray, List.set_cons_zero, List.set_cons_succ]
              refine wpAnyH_ready (rs := [7, 9]) (by kernel_rfl) (by simp) ?_
              refine AllReadyH.cons rfl (fun K hK => ?_) (AllReadyH.cons rfl (fun K hK => ?_) AllReadyH.nil)
              · go_simp
                refine hK.out _ _ ?_ (fun hHeld => ?_)
                · exact hq0
                clear hK K
                refine wpAnyH_ready (rs := [9]) (by kernel_rfl) (by simp) ?_
                refine AllReadyH.cons rfl (fun K hK => ?_) AllReadyH.nil
                go_simp
                refine hK.out _ _ ?_ (fun hHeld => ?_)
                · exact cell_alloc hq0 _
                clear hK K
                refine wpAnyH_ready (rs := [10]) (by kernel_rfl) (by simp) ?_
                refine AllReadyH.cons rfl (fun K hK => ?_) AllReadyH.nil
                refine step_own_v _ rfl _ _ 81 rfl W.heap.size 3 i0 (.int .i64 0) 1 8 Try.underlying81 HI.out.1 HI.out.2.1 HI.out.2.2.1 HI.out.2.2.2 rfl (by decide) _ _ _ rfl (own_keep hox2 (below_box (.cells #[.int .i64 (k : Nat)] 3))).drew ⟨W3.heap.size, 0, none⟩ 1 1 [.int .i64 (k : Nat)] rfl rfl (cell_one_new W3 (.int .i64 (k : Nat)) 3) ?dA2 ?dA3 ?dA4 ?dA5 ?_
                case dA2 => (intro u hu; simp at hu; subst hu; rfl)
                case dA3 => unfold maxLen; omega
                case dA4 => omega
                case dA5 => (have h1 := HB2.out.size; show W.heap.size ≤ (W3.alloc _).heap.size; rw [World.size_alloc]; omega)
                intro v5 w5 ho5 hg5 hat5
                have hq5 : w5.cell? ⟨wr.heap.size, 0, none⟩ = some (.int .i64 (x : Int)) := by
                  rw [World.cell?_of_block (hg5.block wr.heap.size (by show _ < (W3.alloc _).heap.size; rw [World.size_alloc, HSZ.out]; omega) (fun e => HNE.out e.symm))]
                  exact cell_alloc hq0 _
                refine hK.out _ _ ?_ (fun hHeld => ?_)
                · exact hq5
                clear hK K
                (first
                  | (refine held_take (i := 11) (v := ?_) rfl (by kernel_rfl) (by kernel_rfl) (by kernel_rfl) (fun _ _ _ h => h) (Or.inl ⟨rfl, ?_⟩) (by assumption) ?_; rotate_left; (intro X hSw; (try dsimp only at hSw); (go_simp <;> with_reducible rfl)))
                  | (refine held_take (i := 11) (v := undef) rfl (by kernel_rfl) (by kernel_rfl) (by kernel_rfl) (fun _ _ _ h => h) (Or.inr ⟨rfl, rfl⟩) (by assumption) ?_)); simp only [Act.put, List.setIfInBounds_toArray]
                refine wpAnyH_ready (rs := [12]) (by kernel_rfl) (by simp) ?_
                refine AllReadyH.cons rfl (fun K hK => ?_) AllReadyH.nil
                have hUW := (HUO2.out.keep (below_box (.cells #[.int .i64 (k : Nat)] 3))).keep (Below.refl _ _).drew
                have hg5' : (W3.alloc (.cells #[.int .i64 (k : Nat)] 3)).drew.grownBy w5 (val x).ownBlock := by rw [HV.out]; exact hg5
                have hat5' : v5.ownBlock = (val x).ownBlock ∨ v5.ownBlock = some (W3.alloc (.cells #[.int .i64 (k : Nat)] 3)).drew.heap.size := by rw [HV.out]; exact hat5
                have hUN := hUW.app hxn ho5 hg5' hat5'
                have hU5 : Own w5 (w.heap.size + 1) 81 ((List.range n).map val) := (hg5'.block _ hUW.row.lt (fun e => hUW.rowNe hxn e.symm)).trans hUW.row
                obtain ⟨A5, a5, hv5⟩ := own_form ho5
                subst hv5
                have u5 : w5.cell? ⟨w.heap.size + 1, x, none⟩ = some (val x) := by rw [hU5.cell]; simp [hxn]
                rw [HV.out] at u5
                have fu5 := hU5.frozen x
                have hU5l := hU5.lt
                have hbN : Below W.heap.size W w5 := ((HB2.out.alloc HB2.out.size _).drew).grown hg5 (by have := HB2.out.size; show _ ≤ (W3.alloc _).heap.size; rw [World.size_alloc]; omega) (fun k hk => (hox2.lt k hk).1)
                have hbN2 : Below W.heap.size W (w5.setCell ⟨w.heap.size + 1, x, none⟩ (.slice A5 ((us x).length + 1) a5)) := hbN.setCell (by have := HW.out; simp; omega) _
                have HUN := Lib.hid hUN
                have HBN := Lib.hid hbN2
                have HUK2 := Lib.hid (HUK.out.app hlt hxn)
                have HKM : ∀ h' : Nat, s.head = (h' : Int) → h' < n → k ∈ updL us x (us x ++ [k]) h' := fun h' e2 _ => by
                  rw [HXH.out] at e2
                  have e3 : h' = x := by omega
                  rw [e3]; exact mem_updL_self
                have HM2 := Lib.hid (HMX.out (updL us x (us x ++ [k])) (fun h j hj => mem_updL hj) HKM)
                clear HKM
                clear hUW hg5' hat5' hUN hU5 ho5 hg5 hat5 hbN hbN2
                go_simp
                refine hK.out _ _ ?_ (fun hHeld => ?_)
                · exact (World.cell?_of_block (Below.heap_setCell w5 ⟨w.heap.size + 1, x, none⟩ _ wr.heap.size (by simp; omega))).trans hq5
                clear hK K
                refine wpAnyH_done (by kernel_rfl) ?_ _
                clear HMX HM HUK
                go_wp2
                go_roundw
                case rel => exact ⟨m + 1, by omega, by go_num, _, _, HUN.out, HUK2, HM2, HBN.out⟩
                case measure => simp [intOf]; omega
              · go_simp
                refine hK.out _ _ ?_ (fun hHeld => ?_)
                · exact cell_alloc hq0 _
                clear hK K
                have hcx3 := cell_alloc hcx2 (.cells #[.int .i64 (k : Nat)] 3)
                refine wpAnyH_ready (rs := [7]) (by kernel_rfl) (by simp) ?_
                refine AllReadyH.cons rfl (fun K hK => ?_) AllReadyH.nil
                go_simp
                refine hK.out _ _ ?_ (fun hHeld => ?_)
                · exact cell_alloc hq0 _
                clear hK K
                refine wpAnyH_ready (rs := [10]) (by kernel_rfl) (by simp) ?_
                refine AllReadyH.cons rfl (fun K hK => ?_) AllReadyH.nil
                refine step_own_v _ rfl _ _ 81 rfl W.heap.size 3 i0 (.int .i64 0) 1 8 Try.underlying81 HI.out.1 HI.out.2.1 HI.out.2.2.1 HI.out.2.2.2 rfl (by decide) _ _ _ rfl (own_keep hox2 (below_box (.cells #[.int .i64 (k : Nat)] 3))).drew ⟨W3.heap.size, 0, none⟩ 1 1 [.int .i64 (k : Nat)] rfl rfl (cell_one_new W3 (.int .i64 (k : Nat)) 3) ?dB2 ?dB3 ?dB4 ?dB5 ?_
                case dB2 => (intro u hu; simp at hu; subst hu; rfl)
                case dB3 => unfold maxLen; omega
                case dB4 => omega
                case dB5 => (have h1 := HB2.out.size; show W.heap.size ≤ (W3.alloc _).heap.size; rw [World.size_alloc]; omega)
                intro v5 w5 ho5 hg5 hat5
                have hq5 : w5.cell? ⟨wr.heap.size, 0, none⟩ = some (.int .i64 (x : Int)) := by
                  rw [World.cell?_of_block (hg5.block wr.heap.size (by show _ < (W3.alloc _).heap.size; rw [World.size_alloc, HSZ.out]; omega) (fun e => HNE.out e.symm))]
                  exact cell_alloc hq0 _
                refine hK.out _ _ ?_ (fun hHeld => ?_)
                · exact hq5
                clear hK K
                (first
                  | (refine held_take (i := 11) (v := ?_) rfl (by kernel_rfl) (by kernel_rfl) (by kernel_rfl) (fun _ _ _ h => h) (Or.inl ⟨rfl, ?_⟩) (by assumption) ?_; rotate_left; (intro X hSw; (try dsimp only at hSw); (go_simp <;> with_reducible rfl)))
                  | (refine held_take (i := 11) (v := undef) rfl (by kernel_rfl) (by kernel_rfl) (by kernel_rfl) (fun _ _ _ h => h) (Or.inr ⟨rfl, rfl⟩) (by assumption) ?_)); simp only [Act.put, List.setIfInBounds_toArray]
                refine wpAnyH_ready (rs := [12]) (by kernel_rfl) (by simp) ?_
                refine AllReadyH.cons rfl (fun K hK => ?_) AllReadyH.nil
                have hUW := (HUO2.out.keep (below_box (.cells #[.int .i64 (k : Nat)] 3))).keep (Below.refl _ _).drew
                have hg5' : (W3.alloc (.cells #[.int .i64 (k : Nat)] 3)).drew.grownBy w5 (val x).ownBlock := by rw [HV.out]; exact hg5
                have hat5' : v5.ownBlock = (val x).ownBlock ∨ v5.ownBlock = some (W3.alloc (.cells #[.int .i64 (k : Nat)] 3)).drew.heap.size := by rw [HV.out]; exact hat5
                have hUN := hUW.app hxn ho5 hg5' hat5'
                have hU5 : Own w5 (w.heap.size + 1) 81 ((List.range n).map val) := (hg5'.block _ hUW.row.lt (fun e => hUW.rowNe hxn e.symm)).trans hUW.row
                obtain ⟨A5, a5, hv5⟩ := own_form ho5
                subst hv5
                have u5 : w5.cell? ⟨w.heap.size + 1, x, none⟩ = some (val x) := by rw [hU5.cell]; simp [hxn]
                rw [HV.out] at u5
                have fu5 := hU5.frozen x
                have hU5l := hU5.lt
                have hbN : Below W.heap.size W w5 := ((HB2.out.alloc HB2.out.size _).drew).grown hg5 (by have := HB2.out.size; show _ ≤ (W3.alloc _).heap.size; rw [World.size_alloc]; omega) (fun k hk => (hox2.lt k hk).1)
                have hbN2 : Below W.heap.size W (w5.setCell ⟨w.heap.size + 1, x, none⟩ (.slice A5 ((us x).length + 1) a5)) := hbN.setCell (by have := HW.out; simp; omega) _
                have HUN := Lib.hid hUN
                have HBN := Lib.hid hbN2
                have HUK2 := Lib.hid (HUK.out.app hlt hxn)
                have HKM : ∀ h' : Nat, s.head = (h' : Int) → h' < n → k ∈ updL us x (us x ++ [k]) h' := fun h' e2 _ => by
                  rw [HXH.out] at e2
                  have e3 : h' = x := by omega
                  rw [e3]; exact mem_updL_self
                have HM2 := Lib.hid (HMX.out (updL us x (us x ++ [k])) (fun h j hj => mem_updL hj) HKM)
                clear HKM
                clear hUW hg5' hat5' hUN hU5 ho5 hg5 hat5 hbN hbN2
                go_simp
                refine hK.out _ _ ?_ (fun hHeld => ?_)
                · exact (World.cell?_of_block (Below.heap_setCell w5 ⟨w.heap.size + 1, x, none⟩ _ wr.heap.size (by simp; omega))).trans hq5
                clear hK K
                refine wpAnyH_done (by kernel_rfl) ?_ _
                clear HMX HM HUK
                go_wp2
                go_roundw
                case rel => exact ⟨m + 1, by omega, by go_num, _, _, HUN.out, HUK2, HM2, HBN.out⟩
                case measure => simp [intOf]; omega
            · have HKM : ∀ h' : Nat, s.head = (h' : Int) → h' < n → k ∈ us h' := fun h' e2 _ => by
                rw [HXH.out] at e2
                have e3 : h' = x := by omega
                subst e3
                exact endsB_mem qe
              have HM2 := Lib.hid (HMX.out us (fun _ _ h => h) HKM)
              clear HKM
              have HUK2 : Hid (UK n ps us k (k * 160 + (m + 1))) := HUK.out.up (by omega)
              clear HMX HM HUK hox hcx s0 s1 s2
              go_wp2
              go_roundw
              case rel => exact ⟨m + 1, by omega, by go_num, _, _, hUO2, HUK2, HM2, hb2⟩
              case measure => simp [intOf]; omega
        · have hml' : ¬ (m : Int) < (p.body.length : Int) := by omega
          have HUK2 := Lib.hid (HNX.out us (HUK.out.up (by omega)) (fun h hh ⟨s, hs, e⟩ => by
            obtain ⟨i, hi, rfl⟩ := List.getElem_of_mem hs
            exact HM.out i hi (by omega) h e hh))
          clear HM HNX
          go_wp2
          go_roundw
          case rel => exact ⟨k + 1, by omega, by go_num, _, _, hUO, HUK2, hb⟩
          case measure => simp [intOf]; omega
    · have hlt' : ¬ (k : Int) < (ps.length : Int) := by omega
      obtain rfl : k = ps.length := by omega
      go_wp2
      go_ret
      exact ⟨_, val, us, rfl, hUO.base (by have := HW.out; omega), HUK.out.up (by omega), HBX.out.trans (hb.mono (by have := HW.out; omega))⟩

end Go.Proofs.Ytafldjbmheopjaa
