/- Productions are applied till none lessens its head: impl.settle with the closure of impl.CfgLeast. -/
import Derived.Test.YtafldjbmheopjaaK9
namespace Go.Proofs.Ytafldjbmheopjaa
open Go.RowKit
set_option linter.unusedVariables false

theorem info4 : (Try.prog.info? 4).map (fun i => (i.zero, i.size, i.bytes)) = some (some (.bool false), 1, 1) := by kernel_rfl

theorem Fr.wide {F F' G : Nat → Prop} {w w' : World} (h : Fr F F' w w') (hG : ∀ k, F k → G k) : Fr G G w w' :=
  ⟨h.os, h.tape, h.output, h.size, fun k hk hn => h.block k hk (fun e => hn (hG k e)), fun _ _ h => h⟩

/-- The blocks that may turn: the list's, and new ones. -/
def GF (g H : Nat) (k : Nat) : Prop := k = g ∨ H ≤ k

theorem WL.far {base wl wb m : Nat} {qv : Value} {q : List Nat} {ws : List Bool} {w : World} (h : WL base wl wb m qv q ws w) {p : Addr} (hp : ¬ WF wl wb qv p.block) (v : Value) : WL base wl wb m qv q ws (w.setCell p v) :=
  ⟨h.box.far (fun e => hp (.inl e.symm)) v, h.wt.far (fun e => hp (.inr (.inl e.symm))) v, h.qr.same (fun b e => Below.heap_setCell w p v b (fun e2 => hp (.inr (.inr (by rw [e, e2]))))), h.b1, h.b2⟩

/-- How long the queue of a work list is. -/
def qlen (wl : Nat) (w : World) : Nat := match w.cell? ⟨wl, 0, none⟩ with | some (.slice _ n _) => n | _ => 0
theorem WL.qlen {base wl wb m : Nat} {qv : Value} {q : List Nat} {ws : List Bool} {w : World} (h : WL base wl wb m qv q ws w) : qlen wl w = q.length := by
  obtain ⟨A, c, rfl⟩ := h.qr.shape
  have : w.cell? ⟨wl, 0, none⟩ = some (.slice A q.length c) := by rw [h.box.cell]; rfl
  unfold Go.Proofs.Ytafldjbmheopjaa.qlen
  rw [this]
theorem own_read {w : World} {base g n cap : Nat} {L : List Int} (h : w.ownsRow base 3 1 (.slice (some ⟨g, 0, none⟩) n cap) n (ints L)) (hl : L.length = n) : readL g n w = L := by
  subst hl
  unfold readL
  apply List.ext_getElem (by simp)
  intro i h1 h2
  simp only [List.getElem_map, List.getElem_range]
  obtain ⟨b, off, e, hc⟩ := (own_row h).int h2
  injection e with e
  injection e with e1 e2
  subst e1 e2
  rw [Nat.zero_add] at hc
  rw [hc]
  simp [intOf]

theorem meas1 {t t' m q q' : Nat} (h : t' < t) (hq : q' ≤ m) : t' * (m + 1) + q' < t * (m + 1) + (q + 1) := by
  have h1 : (t' + 1) * (m + 1) ≤ t * (m + 1) := Nat.mul_le_mul_right _ h
  rw [Nat.add_mul] at h1
  omega

def SettlePost (S0 g cap n lb : Nat) (ps : List Pd) (W0 : World) (e : Ending) (w' : World) : Prop :=
  e = .returned (.tuple #[]) ∧ ∃ L, Reach n ps L ∧ (∀ p ∈ ps, StableAt L p) ∧ w'.ownsRow S0 3 1 (.slice (some ⟨g, 0, none⟩) n cap) n (ints L) ∧ w'.cell? ⟨lb, 0, none⟩ = some (.slice (some ⟨g, 0, none⟩) n cap) ∧ Below S0 W0 w'

set_option maxRecDepth 100000 in
set_option maxHeartbeats 8000000 in
theorem settle_any (n g cap lb : Nat) (ps : List Pd) (L0 : List Int) (a : Option Addr) (c : Nat) (W0 w : World) (hr : Pds W0 a ps) (hB0 : Below W0.heap.size W0 w) (hfit : Fit n ps) (hp : ps.length ≤ 400) (hn0 : 1 ≤ n) (hn2 : n ≤ 200)
    (hlb : w.cell? ⟨lb, 0, none⟩ = some (.slice (some ⟨g, 0, none⟩) n cap)) (hlg : lb ≠ g) (hls : W0.heap.size ≤ lb) (ho : w.ownsRow W0.heap.size 3 1 (.slice (some ⟨g, 0, none⟩) n cap) n (ints L0)) (hre : Reach n ps L0) :
    Calls Try.prog 84 #[.agg #[.int .i64 (n : Int), .slice a ps.length c], .func (.func 85) #[] #[.pointer (some ⟨lb, 0, none⟩)]] w (SettlePost W0.heap.size g cap n lb ps W0) := by
  have HR := Lib.hid hr
  have HF := Lib.hid hfit
  have HRE0 := Lib.hid hre
  have hlbl := cell_lt hlb
  simp only at hlbl
  have hgl := ho.lt g rfl
  clear hr hfit hre
  have hmk := run_make_row' (P := Try.prog) 42 4 (.bool false) 1 Try.underlying42 info4 rfl .i64 .i64 ps.length (by omega) (by omega)
  go_enter Try.func84, Try.ntmps84
  go_wp2_with fail
  refine (usersOf_any n ps a c _ ((HR.out.keep hB0).keep (below_box _)) HF.out hp hn0 hn2).mono ?_
  rintro e w1 ⟨U, val, us, rfl, hUO, hUK, hb1⟩
  have k0 : w1.cell? ⟨w.heap.size, 0, none⟩ = some (.int .i64 (n : Int)) := cell_keep hb1 (by simp)
  have k1 : w1.cell? ⟨w.heap.size, 1, none⟩ = some (.slice a ps.length c) := cell_keep hb1 (by simp)
  have bw1 : Below w.heap.size w w1 := (below_box _).trans (hb1.mono (by simp))
  have hUO1 : UO (w.heap.size + 1) U n val us w1 := hUO.base (by simp)
  have hlb1 := cell_keep bw1 hlb
  have ho1 := own_keep ho bw1
  have hB1 : Below W0.heap.size W0 w1 := hB0.trans (bw1.mono hB0.size)
  have hs1 : w.heap.size + 1 ≤ w1.heap.size := by have := hb1.size; simpa using this
  have hk0l := cell_lt k0
  have HUO := Lib.hid hUO1
  have HUK := Lib.hid hUK
  have HLB := Lib.hid hlb1
  have HO := Lib.hid ho1
  have HB1 := Lib.hid hB1
  have HK1 := Lib.hid k1
  clear hUO hUK hb1 bw1 hUO1 hlb1 ho1 hB1 hlb ho hB0
  go_wp2
  clear hmk
  have hWL : WL w1.heap.size (w1.heap.size + 1) w1.heap.size ps.length (.slice none 0 0) [] (List.replicate ps.length false) ((w1.alloc (.cells (madeCells #[.bool false] ps.length) 4)).alloc (.cells #[.slice none 0 0, .slice (some ⟨w1.heap.size, 0, none⟩) ps.length ps.length] 136)) := by
    refine ⟨?_, ?_, .inl ⟨rfl, rfl⟩, by omega, by omega⟩
    · have := Own.new (w1.alloc (.cells (madeCells #[.bool false] ps.length) 4)) 136 #[.slice none 0 0, .slice (some ⟨w1.heap.size, 0, none⟩) ps.length ps.length]
      simpa using this
    · have := (Own.made w1 4 (.bool false) ps.length).alloc (.cells #[.slice none 0 0, .slice (some ⟨w1.heap.size, 0, none⟩) ps.length ps.length] 136)
      simpa using this
  have hWOK : WOK ps.length [] (List.replicate ps.length false) := ⟨by simp, by simp, by simp, by simp⟩
  have hb2 : Below w1.heap.size w1 ((w1.alloc (.cells (madeCells #[.bool false] ps.length) 4)).alloc (.cells #[.slice none 0 0, .slice (some ⟨w1.heap.size, 0, none⟩) ps.length ps.length] 136)) := (below_box _).alloc (by simp) _
  generalize (w1.alloc (.cells (madeCells #[.bool false] ps.length) 4)).alloc (.cells #[.slice none 0 0, .slice (some ⟨w1.heap.size, 0, none⟩) ps.length ps.length] 136) = w2 at *
  have k1b := cell_keep hb2 k1
  generalize hwl : w1.heap.size + 1 = wl at *
  generalize hwb : w1.heap.size = wb at *
  have HWB := Lib.hid hwb
  clear hwb
  go_wp2
  go_loopw [18] (fun i wr => ∃ k : Nat, k ≤ ps.length ∧ i = .int .i64 k ∧ ∃ qv q ws, WL wb wl wb ps.length qv q ws wr ∧ Hid (WOK ps.length q ws) ∧ Hid (∀ j, j < k → j ∈ q) ∧ Below wb w1 wr) (fun i _ => ps.length - (intOf i).toNat)
  case atStart => exact ⟨0, Nat.zero_le _, rfl, _, _, _, hWL, hWOK, fun j hj => by omega, hb2⟩
  case round =>
    clear hWL hWOK hb2 k1b
    obtain ⟨k, hk, rfl, qv, q, ws, hWL, HOK, HQ, hb⟩ := hrel
    have hwr : wb ≤ wr.heap.size := by have := hb.size; have := HWB.out; omega
    by_cases hlt : k < ps.length
    · have hlt' : (k : Int) < (ps.length : Int) := by omega
      have hWL1 := hWL.keep (below_box (.cells #[.int .i64 (k : Nat)] 3))
      have hrow : Row (wr.alloc (.cells #[.int .i64 (k : Nat)] 3)) (some ⟨wr.heap.size, 0, none⟩) (nats [k]) := (Own.new wr 3 #[.int .i64 (k : Nat)]).row
      have hnA : ∀ p, some (⟨wr.heap.size, 0, none⟩ : Addr) = some p → ¬ WF wl wb qv p.block := fun p e hF => by
        injection e with e
        subst e
        rcases hF with h1 | h1 | h1
        · have := hWL.box.lt; simp only at h1; omega
        · have := hWL.wt.lt; simp only at h1; omega
        · have := (hWL.qr.lt h1).2.1; simp only at this; omega
      have HADD := Lib.hid (add_any wb wl wb ps.length qv q [k] ws (some ⟨wr.heap.size, 0, none⟩) 1 (wr.alloc (.cells #[.int .i64 (k : Nat)] 3)) hWL1 HOK.out hp hrow hnA (by simp; omega) (by simp) (by simp; omega))
      have HFO : Hid (∀ k, WF wl wb qv k → wb ≤ k) := fun k hk => hWL.foot hk
      clear hWL hWL1 hrow hnA HOK
      go_wp2_with fail
      refine HADD.out.mono ?_
      rintro e w3 ⟨rfl, qv', q', ws', hWL', hOK', hqq, hix, hfr⟩
      have hb' : Below wb w1 w3 := (hb.alloc hwr _).trans (hfr.below HFO.out (by simp; omega))
      have HOK2 := Lib.hid hOK'
      have HQ2 : Hid (∀ j, j < k + 1 → j ∈ q') := fun j hj => by
        rcases Nat.lt_succ_iff_lt_or_eq.1 hj with h3 | h3
        · exact hqq j (HQ.out j h3)
        · subst h3; exact hix j (by simp)
      clear hOK' hqq hix hfr hb HADD HFO HQ
      go_wp2
      go_roundw
      case rel => exact ⟨k + 1, by omega, by go_num, qv', q', ws', hWL', HOK2, HQ2, hb'⟩
      case measure => simp [intOf]; omega
    · have hlt' : ¬ (k : Int) < (ps.length : Int) := by omega
      obtain rfl : k = ps.length := by omega
      have hfr0 : Fr (GF g wb) (GF g wb) w1 wr := by
        refine ⟨hb.os, hb.tape, hb.output, hb.size, fun k hk hn => hb.block k ?_, fun _ _ h => h⟩
        have := HWB.out
        omega
      have ho0 := own_keep HO.out (by rw [HWB.out]; exact hb)
      have HST0 : Hid (∀ j (h : j < ps.length), j ∉ q → StableAt L0 ps[j]) := fun j h hn => absurd (HQ.out j h) hn
      clear hb HQ
      go_wp2
      go_loopw [7] (fun _ wr => ∃ qv q ws L, WL wb wl wb ps.length qv q ws wr ∧ Hid (WOK ps.length q ws) ∧ wr.ownsRow W0.heap.size 3 1 (.slice (some ⟨g, 0, none⟩) n cap) n (ints L) ∧ Hid (Reach n ps L) ∧ Hid (∀ j (h : j < ps.length), j ∉ q → StableAt L ps[j]) ∧ Fr (GF g wb) (GF g wb) w1 wr) (fun _ wr => tot (readL g n wr) * (ps.length + 1) + qlen wl wr)
      case atStart => exact ⟨qv, q, ws, L0, hWL, HOK, ho0, HRE0, HST0, hfr0⟩
      case round =>
        clear hWL HOK ho0 HRE0 HST0 hfr0 hwr
        obtain ⟨qv, q, ws, L, hWL, HOK, ho, HRe, HST, hfr⟩ := hrel
        have hln := HRe.out.length
        have HBB : Hid (Below W0.heap.size W0 wr) := HB1.out.trans (hfr.below (fun k hk => by
          have := HB1.out.size
          have := HWB.out
          rcases hk with h | h <;> omega) HB1.out.size)
        have x0 : wr.cell? ⟨wl, 0, none⟩ = some qv := by rw [hWL.box.cell]; rfl
        have y1 : wr.cell? ⟨w.heap.size, 1, none⟩ = some (.slice a ps.length c) := hfr.cell HK1.out (fun h => by rcases h with h | h <;> (simp only at h; have := HWB.out; omega))
        have HMS : Hid (tot (readL g n wr) * (ps.length + 1) + qlen wl wr = tot L * (ps.length + 1) + q.length) := by
          show _ = _
          rw [own_read ho hln, hWL.qlen]
        rcases q with _ | ⟨j, r⟩
        · obtain ⟨QA, qc, rfl⟩ := hWL.qr.shape
          have lbr : wr.cell? ⟨lb, 0, none⟩ = some (.slice (some ⟨g, 0, none⟩) n cap) := hfr.cell HLB.out (fun h => by
            have := HWB.out
            rcases h with h | h <;> (simp only at h; omega))
          have HALL : Hid (∀ p ∈ ps, StableAt L p) := fun p hp => by
            obtain ⟨i, hi, rfl⟩ := List.getElem_of_mem hp
            exact HST.out i hi (by simp)
          simp only [List.length_nil] at x0
          clear HST hWL HOK HMS y1
          go_wp2
          go_end0
          exact ⟨rfl, L, HRe.out, HALL.out, ho, lbr, HBB.out⟩
        · have hjm : j < ps.length := HOK.out.lt j (List.mem_cons_self ..)
          have hjm' : (j : Int) < (ps.length : Int) := by omega
          obtain ⟨b, off, rfl, K, kc, hnW⟩ := HR.out.at_ hjm
          have hn := hnW.keep HBB.out
          have HSY := Lib.hid hnW.k
          have hbl : b < W0.heap.size := by have := cell_lt hnW.c0; simpa using this
          clear hnW
          have HP := Lib.hid (List.getElem_mem hjm)
          obtain ⟨p, hpj⟩ : ∃ p, ps[j] = p := ⟨_, rfl⟩
          have HPJ := Lib.hid hpj
          have c0 := hn.c0
          have c1 := hn.c1
          rw [hpj] at c0 c1 HP HSY
          clear hn hpj
          obtain ⟨f0, f1, f2, _⟩ := HF.out p HP.out
          obtain ⟨x, hx⟩ : ∃ x : Nat, p.head = x := ⟨p.head.toNat, by omega⟩
          rw [hx] at c0
          have hxn : x < n := by omega
          have hxn' : (x : Int) < (n : Int) := by omega
          have HX := Lib.hid hx
          clear hx f0 f1
          have HTK : Hid (∀ w', Below wr.heap.size wr w' → Calls Try.prog 92 #[.pointer (some ⟨wl, 0, none⟩)] w' (TakePost wb wl wb ps.length j qv r ws w')) := fun w' hb' => take_any wb wl wb ps.length j qv r ws w' (hWL.keep hb') HOK.out hp
          have HNF : Hid (∀ k, k < wb → ¬ WF wl wb qv k) := fun k hk h => by have := hWL.foot h; omega
          have HNF2 : Hid (¬ WF wl wb qv wr.heap.size) := fun h => by
            rcases h with h | h | h
            · have := hWL.box.lt; omega
            · have := hWL.wt.lt; omega
            · have := (hWL.qr.lt h).2.1; omega
          have hwr : wb ≤ wr.heap.size := by have := hfr.size; have := HWB.out; omega
          have hq1 := hWL.qr.shape
          obtain ⟨QA, qc, hqv⟩ := hq1
          have x0' := x0
          rw [hqv] at x0'
          simp only [List.length_cons] at x0'
          have HQV := Lib.hid hqv
          have hlen0 : (0 : Int) < ((r.length : Int) + 1) := by omega
          have hbwb : b < wb := by have := HB1.out.size; have := HWB.out; omega
          have hwwb : w.heap.size < wb := by have := HWB.out; omega
          have HFR := Lib.hid hfr
          have HO2 := Lib.hid ho
          have HFT : Hid (∀ k, WF wl wb qv k → GF g wb k) := fun k hk => .inr (hWL.foot hk)
          have HGW : Hid (¬ WF wl wb qv g) := HNF.out g (by have := HWB.out; omega)
          clear hWL hqv x0 hfr ho
          go_wp2_with fail
          refine wp_region_held_drew (S := fun X => X.cell? ⟨w.heap.size, 1, none⟩ = some (.slice (some ⟨b, off, none⟩) ps.length c) ∧ X.cell? ⟨b, off + j * 2, none⟩ = some (.int .i64 (x : Int)) ∧ X.cell? ⟨b, off + j * 2 + 1, none⟩ = some (.slice K p.body.length kc)) (by kernel_rfl) ?_ (fun hHeld => ?_)
          · exact ⟨y1, c0, c1⟩
          (first
            | (refine held_take (i := 0) (v := ?_) rfl (by kernel_rfl) (by kernel_rfl) (by kernel_rfl) (fun _ _ _ h => h) (Or.inl ⟨rfl, ?_⟩) (by assumption) ?_; rotate_left; (intro X hSw; (try dsimp only at hSw); (go_simp <;> with_reducible rfl)))
            | (refine held_take (i := 0) (v := undef) rfl (by kernel_rfl) (by kernel_rfl) (by kernel_rfl) (fun _ _ _ h => h) (Or.inr ⟨rfl, rfl⟩) (by assumption) ?_)); simp only [Act.put, List.setIfInBounds_toArray, List.set_cons_zero, List.set_cons_succ]
          (first
            | (refine held_take (i := 1) (v := ?_) rfl (by kernel_rfl) (by kernel_rfl) (by kernel_rfl) (fun _ _ _ h => h) (Or.inl ⟨rfl, ?_⟩) (by assumption) ?_; rotate_left; (intro X hSw; (try dsimp only at hSw); (go_simp <;> with_reducible rfl)))
            | (refine held_take (i := 1) (v := undef) rfl (by kernel_rfl) (by kernel_rfl) (by kernel_rfl) (fun _ _ _ h => h) (Or.inr ⟨rfl, rfl⟩) (by assumption) ?_)); simp only [Act.put, List.setIfInBounds_toArray, List.set_cons_zero, List.set_cons_succ]

          refine wpAnyH_ready (rs := [2, 5]) (by kernel_rfl) (by simp) ?_
          refine AllReadyH.cons rfl (fun K1 hK => ?_) (AllReadyH.cons rfl (fun K1 hK => ?_) AllReadyH.nil)
          · go_simp
            go_wp2_with (go_at_call 92; refine (HTK.out _ (Below.refl _ _).drew).mono ?_; rintro e w3 ⟨rfl, qv3, hWL3, hfr3⟩)
            have z1 := hfr3.cell (p := ⟨w.heap.size, 1, none⟩) (x := .slice (some ⟨b, off, none⟩) ps.length c) y1 (HNF.out _ hwwb)
            have z2 := hfr3.cell (p := ⟨b, off + j * 2, none⟩) (x := .int .i64 (x : Int)) c0 (HNF.out _ hbwb)
            have z3 := hfr3.cell (p := ⟨b, off + j * 2 + 1, none⟩) (x := .slice K p.body.length kc) c1 (HNF.out _ hbwb)
            refine hK.out _ _ ?_ (fun hHeld => ?_)
            · exact ⟨z1, z2, z3⟩
            clear hK K1
            (first
              | (refine held_take (i := 3) (v := ?_) rfl (by kernel_rfl) (by kernel_rfl) (by kernel_rfl) (fun _ _ _ h => h) (Or.inl ⟨rfl, ?_⟩) (by assumption) ?_; rotate_left; (intro X hSw; (try dsimp only at hSw); (go_simp <;> with_reducible rfl)))
              | (refine held_take (i := 3) (v := undef) rfl (by kernel_rfl) (by kernel_rfl) (by kernel_rfl) (fun _ _ _ h => h) (Or.inr ⟨rfl, rfl⟩) (by assumption) ?_)); simp only [Act.put, List.setIfInBounds_toArray, List.set_cons_zero, List.set_cons_succ]
            (first
              | (refine held_take (i := 4) (v := ?_) rfl (by kernel_rfl) (by kernel_rfl) (by kernel_rfl) (fun _ _ _ h => h) (Or.inl ⟨rfl, ?_⟩) (by assumption) ?_; rotate_left; (intro X hSw; (try dsimp only at hSw); (go_simp <;> with_reducible rfl)))
              | (refine held_take (i := 4) (v := undef) rfl (by kernel_rfl) (by kernel_rfl) (by kernel_rfl) (fun _ _ _ h => h) (Or.inr ⟨rfl, rfl⟩) (by assumption) ?_)); simp only [Act.put, List.setIfInBounds_toArray, List.set_cons_zero, List.set_cons_succ]

            refine wpAnyH_ready (rs := [5]) (by kernel_rfl) (by simp) ?_
            refine AllReadyH.cons rfl (fun K1 hK => ?_) AllReadyH.nil
            go_simp
            refine hK.out _ _ ?_ (fun hHeld => ?_)
            · exact ⟨cell_alloc z1 _, cell_alloc z2 _, cell_alloc z3 _⟩
            clear hK K1
            refine wpAnyH_ready (rs := [6]) (by kernel_rfl) (by simp) ?_
            refine AllReadyH.cons rfl (fun K1 hK => ?_) AllReadyH.nil
            go_simp
            refine hK.out _ _ ?_ (fun hHeld => ?_)
            · exact ⟨cell_alloc z1 _, cell_alloc z2 _, cell_alloc z3 _⟩
            clear hK K1
            refine wpAnyH_done (by kernel_rfl) ?_ _
            have hWL4 := hWL3.keep (below_box (.cells #[.int .i64 (x : Int), .slice K p.body.length kc] 57))
            have fr4 : Fr (GF g wb) (GF g wb) w1 (w3.alloc (.cells #[.int .i64 (x : Int), .slice K p.body.length kc] 57)) := ((HFR.out.trans (Fr.of_below _ (Below.refl _ _).drew)).trans (hfr3.wide HFT.out)).trans (Fr.of_below _ (below_box _))
            have ho4 := own_keep (hfr3.ownsRow HO2.out.drew (fun b e h => by injection e with e; simp only at e; rw [← e] at h; exact HGW.out h)) (below_box (.cells #[.int .i64 (x : Int), .slice K p.body.length kc] 57))
            have pb0 : (w3.alloc (.cells #[.int .i64 (x : Int), .slice K p.body.length kc] 57)).cell? ⟨w3.heap.size, 0, none⟩ = some (.int .i64 (x : Int)) := by simp
            have pb1 : (w3.alloc (.cells #[.int .i64 (x : Int), .slice K p.body.length kc] 57)).cell? ⟨w3.heap.size, 1, none⟩ = some (.slice K p.body.length kc) := by simp
            have hpb : wb ≤ w3.heap.size := by have h1 : wr.heap.size ≤ w3.heap.size := hfr3.size
                                               omega
            generalize w3.alloc (.cells #[.int .i64 (x : Int), .slice K p.body.length kc] 57) = w4 at *
            generalize w3.heap.size = pb at *
            clear z1 z2 z3 hWL3 hfr3 HTK HNF HNF2 HFT HGW HFR HO2 y1 c0 c1 x0' hHeld
            have BB4 : Below W0.heap.size W0 w4 := HB1.out.trans (fr4.below (fun k hk => by
              have := HB1.out.size
              have := HWB.out
              rcases hk with h | h <;> omega) HB1.out.size)
            have lb4 : w4.cell? ⟨lb, 0, none⟩ = some (.slice (some ⟨g, 0, none⟩) n cap) := fr4.cell HLB.out (fun h => by
              have := HWB.out
              rcases h with h | h <;> (simp only at h; omega))
            have HCL : Hid (Calls Try.prog 85 #[.agg #[.int .i64 (x : Int), .slice K p.body.length kc], .pointer (some ⟨lb, 0, none⟩)] w4 (ApplyPost g cap n W0.heap.size L p w4)) := by
              have := clos29 lb g cap n W0.heap.size L p K kc w4 lb4 ho4 hln (HSY.out.keep BB4) (HF.out.body HP.out) (HRe.out.good HF.out) hn2 (by have := HX.out; omega) (by have := HX.out; omega)
              rw [HX.out] at this
              exact this
            have HWL4 := Lib.hid hWL4
            have HFR4 := Lib.hid fr4
            clear hWL4 fr4 ho4 BB4 lb4
            go_wp2_with fail
            refine HCL.out.mono ?_
            rintro e w5 ⟨rfl, ho5, hfr5⟩
            have fr5 : Fr (GF g wb) (GF g wb) w1 w5 := HFR4.out.trans (hfr5.wide (fun k e => .inl e))
            have hWL5 := HWL4.out.frame hfr5 (fun k e => by have := HWB.out; omega)
            have q0 : w5.cell? ⟨pb, 0, none⟩ = some (.int .i64 (x : Int)) := hfr5.cell pb0 (fun e => by have := HWB.out; simp only at e; omega)
            have hpl := cell_lt q0
            simp only at hpl
            clear HCL HWL4 HFR4 hfr5 pb0 pb1
            by_cases LE : Less L p
            · rw [decide_eq_true LE]
              rw [if_pos LE] at ho5
              have uo5 := HUO.out.frame fr5 (fun k hk => by
                have := HWB.out
                rcases hk with h | h <;> omega)
              have hcx := uo5.cell hxn
              have hox := uo5.own x hxn
              obtain ⟨A, ac, hv⟩ := own_form hox
              have hrow : Row w5 A (nats (us x)) := by rw [hv] at hox; exact own_row hox
              have hnA : ∀ q, A = some q → ¬ WF wl wb qv3 q.block := fun q e hF => by
                have h1 := ((HUO.out.own x hxn).lt q.block (by rw [hv, e]; rfl)).2
                have h2 := hWL5.foot hF
                have := HWB.out
                omega
              rw [hv] at hcx
              have HAD := Lib.hid (add_any wb wl wb ps.length qv3 r (us x) (ws.set j false) A ac w5 hWL5 HOK.out.take hp hrow hnA (fun i hi => HUK.out.lt x hxn i hi) (by have := HUK.out.len x hxn; omega) (by have := fr5.size; have := HWB.out; omega))
              have HFO : Hid (∀ k, WF wl wb qv3 k → wb ≤ k) := fun k hk => hWL5.foot hk
              have HLE := Lib.hid LE
              have HO5 := Lib.hid ho5
              have HF5 := Lib.hid fr5
              clear uo5 hox hv hrow hnA hWL5 LE ho5 fr5
              go_wp2_with fail
              refine HAD.out.mono ?_
              rintro e w6 ⟨rfl, qv6, q6, ws6, hWL6, hOK6, hqq, hix, hfr6⟩
              have fr6 : Fr (GF g wb) (GF g wb) w1 w6 := HF5.out.trans (hfr6.wide (fun k e => .inr (HFO.out k e)))
              have ho6 := hfr6.ownsRow HO5.out (fun b e h => by have h2 := HFO.out b h; injection e with e; simp only at e; have := HWB.out; omega)
              have HRe6 : Hid (Reach n ps (L.set p.head.toNat (sumOf L p.body))) := Reach.step L p HRe.out HP.out HLE.out
              have HTT := Lib.hid (HLE.out.tot hln (by have := HX.out; omega) (by have := HX.out; omega) (HF.out p HP.out).2.2.1)
              have HST6 : Hid (∀ i (h : i < ps.length), i ∉ q6 → StableAt (L.set p.head.toNat (sumOf L p.body)) ps[i]) := fun i hi hn => by
                have hnb : ∀ s ∈ ps[i].body, s.head ≠ p.head := fun s hs e => hn (hix i (HUK.out.has x hxn i hi hi ⟨s, hs, by rw [e]; exact HX.out⟩))
                have hp0 : 0 ≤ p.head := by have := HX.out; omega
                have hp1 : p.head < n := by have := HX.out; omega
                by_cases e : i = j
                · have e2 : ps[i] = p := by subst e; exact HPJ.out
                  rw [e2] at hnb ⊢
                  exact StableAt.own hln HLE.out hp0 hp1 hnb
                · refine StableAt.stay hln (HST.out i hi (fun h => ?_)) HLE.out hp0 hp1 (HF.out _ (List.getElem_mem hi)).1 hnb
                  rcases List.mem_cons.1 h with h1 | h1
                  · exact e h1
                  · exact hn (hqq i h1)
              have HOK6 := Lib.hid hOK6
              have hln6 : (L.set p.head.toNat (sumOf L p.body)).length = n := by rw [List.length_set]; exact hln
              have HM6 : Hid (tot (readL g n w6) * (ps.length + 1) + qlen wl w6 = tot (L.set p.head.toNat (sumOf L p.body)) * (ps.length + 1) + q6.length) := by
                show _ = _
                rw [own_read ho6 hln6, hWL6.qlen]
              clear hOK6 hqq hix hfr6 HAD HFO HO5 HF5 HST HLE HRe
              go_wp2
              go_roundw
              case rel => exact ⟨qv6, q6, ws6, _, hWL6, HOK6, ho6, HRe6, HST6, fr6⟩
              case measure => rw [HM6.out, HMS.out]; exact meas1 HTT.out HOK6.out.len
            · rw [decide_eq_false LE]
              rw [if_neg LE] at ho5
              have HOK6 := Lib.hid HOK.out.take
              have HST6 : Hid (∀ i (h : i < ps.length), i ∉ r → StableAt L ps[i]) := fun i hi hn => by
                by_cases e : i = j
                · have e2 : ps[i] = p := by subst e; exact HPJ.out
                  rw [e2]; exact LE
                · refine HST.out i hi (fun h => ?_)
                  rcases List.mem_cons.1 h with h1 | h1
                  · exact e h1
                  · exact hn h1
              have HM6 : Hid (tot (readL g n w5) * (ps.length + 1) + qlen wl w5 = tot L * (ps.length + 1) + r.length) := by
                show _ = _
                rw [own_read ho5 hln, hWL5.qlen]
              clear HST LE HOK
              go_wp2
              go_roundw
              case rel => exact ⟨qv3, r, _, L, hWL5, HOK6, ho5, HRe, HST6, fr5⟩
              case measure => rw [HM6.out, HMS.out]; simp
          · go_simp
            refine hK.out _ _ ?_ (fun hHeld => ?_)
            · exact ⟨cell_alloc y1 _, cell_alloc c0 _, cell_alloc c1 _⟩
            clear hK K1
            refine wpAnyH_ready (rs := [2]) (by kernel_rfl) (by simp) ?_
            refine AllReadyH.cons rfl (fun K1 hK => ?_) AllReadyH.nil
            go_simp
            go_wp2_with (go_at_call 92; refine (HTK.out _ (below_box _).drew).mono ?_; rintro e w3 ⟨rfl, qv3, hWL3, hfr3⟩)
            have z1 := hfr3.cell (p := ⟨w.heap.size, 1, none⟩) (x := .slice (some ⟨b, off, none⟩) ps.length c) (cell_alloc y1 _) (HNF.out _ hwwb)
            have z2 := hfr3.cell (p := ⟨b, off + j * 2, none⟩) (x := .int .i64 (x : Int)) (cell_alloc c0 _) (HNF.out _ hbwb)
            have z3 := hfr3.cell (p := ⟨b, off + j * 2 + 1, none⟩) (x := .slice K p.body.length kc) (cell_alloc c1 _) (HNF.out _ hbwb)
            have oP : Own w3 wr.heap.size 57 [.int .i64 0, .slice none 0 0] := hfr3.own (Own.new wr 57 #[.int .i64 0, .slice none 0 0]).drew HNF2.out
            have u0 : w3.cell? ⟨wr.heap.size, 0, none⟩ = some (.int .i64 0) := by rw [oP.cell]; rfl
            have u1 : w3.cell? ⟨wr.heap.size, 1, none⟩ = some (.slice none 0 0) := by rw [oP.cell]; rfl
            have v0 := oP.frozen 0
            have v1 := oP.frozen 1
            have hPl := oP.lt
            refine hK.out _ _ ?_ (fun hHeld => ?_)
            · exact ⟨z1, z2, z3⟩
            clear hK K1
            (first
              | (refine held_take (i := 3) (v := ?_) rfl (by kernel_rfl) (by kernel_rfl) (by kernel_rfl) (fun _ _ _ h => h) (Or.inl ⟨rfl, ?_⟩) (by assumption) ?_; rotate_left; (intro X hSw; (try dsimp only at hSw); (go_simp <;> with_reducible rfl)))
              | (refine held_take (i := 3) (v := undef) rfl (by kernel_rfl) (by kernel_rfl) (by kernel_rfl) (fun _ _ _ h => h) (Or.inr ⟨rfl, rfl⟩) (by assumption) ?_)); simp only [Act.put, List.setIfInBounds_toArray, List.set_cons_zero, List.set_cons_succ]
            (first
              | (refine held_take (i := 4) (v := ?_) rfl (by kernel_rfl) (by kernel_rfl) (by kernel_rfl) (fun _ _ _ h => h) (Or.inl ⟨rfl, ?_⟩) (by assumption) ?_; rotate_left; (intro X hSw; (try dsimp only at hSw); (go_simp <;> with_reducible rfl)))
              | (refine held_take (i := 4) (v := undef) rfl (by kernel_rfl) (by kernel_rfl) (by kernel_rfl) (fun _ _ _ h => h) (Or.inr ⟨rfl, rfl⟩) (by assumption) ?_)); simp only [Act.put, List.setIfInBounds_toArray, List.set_cons_zero, List.set_cons_succ]

            refine wpAnyH_ready (rs := [6]) (by kernel_rfl) (by simp) ?_
            refine AllReadyH.cons rfl (fun K1 hK => ?_) AllReadyH.nil
            have far : ∀ (q : Addr) (v : Value), q.block < wb → w3.cell? q = some v → ((w3.setCell ⟨wr.heap.size, 0, none⟩ (.int .i64 (x : Int))).setCell ⟨wr.heap.size, 1, none⟩ (.slice K p.body.length kc)).cell? q = some v := fun q v hq h => by
              rw [World.cell?_of_block (Below.heap_setCell _ ⟨wr.heap.size, 1, none⟩ _ q.block (by simp; omega)), World.cell?_of_block (Below.heap_setCell w3 ⟨wr.heap.size, 0, none⟩ _ q.block (by simp; omega))]
              exact h
            have HFAR := Lib.hid far
            clear far
            go_simp
            refine hK.out _ _ ?_ (fun hHeld => ?_)
            · exact ⟨HFAR.out _ _ hwwb z1, HFAR.out _ _ hbwb z2, HFAR.out _ _ hbwb z3⟩
            clear hK K1
            refine wpAnyH_done (by kernel_rfl) ?_ _
            have hnP : ¬ WF wl wb qv3 wr.heap.size := fun h => HNF2.out (hfr3.foot _ (by simp) h)
            have hWL4 := (hWL3.far (p := ⟨wr.heap.size, 0, none⟩) hnP (.int .i64 (x : Int))).far (p := ⟨wr.heap.size, 1, none⟩) hnP (.slice K p.body.length kc)
            have fr4 : Fr (GF g wb) (GF g wb) w1 ((w3.setCell ⟨wr.heap.size, 0, none⟩ (.int .i64 (x : Int))).setCell ⟨wr.heap.size, 1, none⟩ (.slice K p.body.length kc)) := (((HFR.out.trans (Fr.of_below _ (below_box _).drew)).trans (hfr3.wide HFT.out)).setCell (p := ⟨wr.heap.size, 0, none⟩) (.inr hwr) _).setCell (p := ⟨wr.heap.size, 1, none⟩) (.inr hwr) _
            have ho3 := hfr3.ownsRow (own_keep HO2.out (below_box (.cells #[.int .i64 0, .slice none 0 0] 57))).drew (fun b e h => by injection e with e; simp only at e; rw [← e] at h; exact HGW.out h)
            have hgne : (Value.slice (some ⟨g, 0, none⟩) n cap).ownBlock ≠ some wr.heap.size := fun e => by injection e with e; have := HWB.out; simp only at e; omega
            have ho4 := ownsRow_setCell_other (ownsRow_setCell_other ho3 (a := ⟨wr.heap.size, 0, none⟩) hgne (.int .i64 (x : Int))) (a := ⟨wr.heap.size, 1, none⟩) hgne (.slice K p.body.length kc)
            have oP4 := (oP.set_ 0 (.int .i64 (x : Int))).set_ 1 (.slice K p.body.length kc)
            have pb0 : ((w3.setCell ⟨wr.heap.size, 0, none⟩ (.int .i64 (x : Int))).setCell ⟨wr.heap.size, 1, none⟩ (.slice K p.body.length kc)).cell? ⟨wr.heap.size, 0, none⟩ = some (.int .i64 (x : Int)) := by rw [oP4.cell]; rfl
            have pb1 : ((w3.setCell ⟨wr.heap.size, 0, none⟩ (.int .i64 (x : Int))).setCell ⟨wr.heap.size, 1, none⟩ (.slice K p.body.length kc)).cell? ⟨wr.heap.size, 1, none⟩ = some (.slice K p.body.length kc) := by rw [oP4.cell]; rfl
            have hpb : wb ≤ wr.heap.size := hwr
            generalize (w3.setCell ⟨wr.heap.size, 0, none⟩ (.int .i64 (x : Int))).setCell ⟨wr.heap.size, 1, none⟩ (.slice K p.body.length kc) = w4 at *
            clear z1 z2 z3 hWL3 hfr3 HTK HNF HNF2 HFT HGW HFR HO2 y1 c0 c1 x0' hHeld HFAR oP oP4 u0 u1 v0 v1 ho3 hgne hnP
            generalize hpbe : wr.heap.size = pb at *
            clear hpbe
            have BB4 : Below W0.heap.size W0 w4 := HB1.out.trans (fr4.below (fun k hk => by
              have := HB1.out.size
              have := HWB.out
              rcases hk with h | h <;> omega) HB1.out.size)
            have lb4 : w4.cell? ⟨lb, 0, none⟩ = some (.slice (some ⟨g, 0, none⟩) n cap) := fr4.cell HLB.out (fun h => by
              have := HWB.out
              rcases h with h | h <;> (simp only at h; omega))
            have HCL : Hid (Calls Try.prog 85 #[.agg #[.int .i64 (x : Int), .slice K p.body.length kc], .pointer (some ⟨lb, 0, none⟩)] w4 (ApplyPost g cap n W0.heap.size L p w4)) := by
              have := clos29 lb g cap n W0.heap.size L p K kc w4 lb4 ho4 hln (HSY.out.keep BB4) (HF.out.body HP.out) (HRe.out.good HF.out) hn2 (by have := HX.out; omega) (by have := HX.out; omega)
              rw [HX.out] at this
              exact this
            have HWL4 := Lib.hid hWL4
            have HFR4 := Lib.hid fr4
            clear hWL4 fr4 ho4 BB4 lb4
            go_wp2_with fail
            refine HCL.out.mono ?_
            rintro e w5 ⟨rfl, ho5, hfr5⟩
            have fr5 : Fr (GF g wb) (GF g wb) w1 w5 := HFR4.out.trans (hfr5.wide (fun k e => .inl e))
            have hWL5 := HWL4.out.frame hfr5 (fun k e => by have := HWB.out; omega)
            have q0 : w5.cell? ⟨pb, 0, none⟩ = some (.int .i64 (x : Int)) := hfr5.cell pb0 (fun e => by have := HWB.out; simp only at e; omega)
            have hpl := cell_lt q0
            simp only at hpl
            clear HCL HWL4 HFR4 hfr5 pb0 pb1
            by_cases LE : Less L p
            · rw [decide_eq_true LE]
              rw [if_pos LE] at ho5
              have uo5 := HUO.out.frame fr5 (fun k hk => by
                have := HWB.out
                rcases hk with h | h <;> omega)
              have hcx := uo5.cell hxn
              have hox := uo5.own x hxn
              obtain ⟨A, ac, hv⟩ := own_form hox
              have hrow : Row w5 A (nats (us x)) := by rw [hv] at hox; exact own_row hox
              have hnA : ∀ q, A = some q → ¬ WF wl wb qv3 q.block := fun q e hF => by
                have h1 := ((HUO.out.own x hxn).lt q.block (by rw [hv, e]; rfl)).2
                have h2 := hWL5.foot hF
                have := HWB.out
                omega
              rw [hv] at hcx
              have HAD := Lib.hid (add_any wb wl wb ps.length qv3 r (us x) (ws.set j false) A ac w5 hWL5 HOK.out.take hp hrow hnA (fun i hi => HUK.out.lt x hxn i hi) (by have := HUK.out.len x hxn; omega) (by have := fr5.size; have := HWB.out; omega))
              have HFO : Hid (∀ k, WF wl wb qv3 k → wb ≤ k) := fun k hk => hWL5.foot hk
              have HLE := Lib.hid LE
              have HO5 := Lib.hid ho5
              have HF5 := Lib.hid fr5
              clear uo5 hox hv hrow hnA hWL5 LE ho5 fr5
              go_wp2_with fail
              refine HAD.out.mono ?_
              rintro e w6 ⟨rfl, qv6, q6, ws6, hWL6, hOK6, hqq, hix, hfr6⟩
              have fr6 : Fr (GF g wb) (GF g wb) w1 w6 := HF5.out.trans (hfr6.wide (fun k e => .inr (HFO.out k e)))
              have ho6 := hfr6.ownsRow HO5.out (fun b e h => by have h2 := HFO.out b h; injection e with e; simp only at e; have := HWB.out; omega)
              have HRe6 : Hid (Reach n ps (L.set p.head.toNat (sumOf L p.body))) := Reach.step L p HRe.out HP.out HLE.out
              have HTT := Lib.hid (HLE.out.tot hln (by have := HX.out; omega) (by have := HX.out; omega) (HF.out p HP.out).2.2.1)
              have HST6 : Hid (∀ i (h : i < ps.length), i ∉ q6 → StableAt (L.set p.head.toNat (sumOf L p.body)) ps[i]) := fun i hi hn => by
                have hnb : ∀ s ∈ ps[i].body, s.head ≠ p.head := fun s hs e => hn (hix i (HUK.out.has x hxn i hi hi ⟨s, hs, by rw [e]; exact HX.out⟩))
                have hp0 : 0 ≤ p.head := by have := HX.out; omega
                have hp1 : p.head < n := by have := HX.out; omega
                by_cases e : i = j
                · have e2 : ps[i] = p := by subst e; exact HPJ.out
                  rw [e2] at hnb ⊢
                  exact StableAt.own hln HLE.out hp0 hp1 hnb
                · refine StableAt.stay hln (HST.out i hi (fun h => ?_)) HLE.out hp0 hp1 (HF.out _ (List.getElem_mem hi)).1 hnb
                  rcases List.mem_cons.1 h with h1 | h1
                  · exact e h1
                  · exact hn (hqq i h1)
              have HOK6 := Lib.hid hOK6
              have hln6 : (L.set p.head.toNat (sumOf L p.body)).length = n := by rw [List.length_set]; exact hln
              have HM6 : Hid (tot (readL g n w6) * (ps.length + 1) + qlen wl w6 = tot (L.set p.head.toNat (sumOf L p.body)) * (ps.length + 1) + q6.length) := by
                show _ = _
                rw [own_read ho6 hln6, hWL6.qlen]
              clear hOK6 hqq hix hfr6 HAD HFO HO5 HF5 HST HLE HRe
              go_wp2
              go_roundw
              case rel => exact ⟨qv6, q6, ws6, _, hWL6, HOK6, ho6, HRe6, HST6, fr6⟩
              case measure => rw [HM6.out, HMS.out]; exact meas1 HTT.out HOK6.out.len
            · rw [decide_eq_false LE]
              rw [if_neg LE] at ho5
              have HOK6 := Lib.hid HOK.out.take
              have HST6 : Hid (∀ i (h : i < ps.length), i ∉ r → StableAt L ps[i]) := fun i hi hn => by
                by_cases e : i = j
                · have e2 : ps[i] = p := by subst e; exact HPJ.out
                  rw [e2]; exact LE
                · refine HST.out i hi (fun h => ?_)
                  rcases List.mem_cons.1 h with h1 | h1
                  · exact e h1
                  · exact hn h1
              have HM6 : Hid (tot (readL g n w5) * (ps.length + 1) + qlen wl w5 = tot L * (ps.length + 1) + r.length) := by
                show _ = _
                rw [own_read ho5 hln, hWL5.qlen]
              clear HST LE HOK
              go_wp2
              go_roundw
              case rel => exact ⟨qv3, r, _, L, hWL5, HOK6, ho5, HRe, HST6, fr5⟩
              case measure => rw [HM6.out, HMS.out]; simp

end Go.Proofs.Ytafldjbmheopjaa
