/- Productions are compared: laws.lfCfg. -/
import Derived.Test.YtkgiklmdpdakbaaC6
import Derived.StillTailTactics
namespace Go.Proofs.Ytkgiklmdpdakbaa
open Go.RowKit
set_option linter.unusedVariables false

theorem sy_ext (a b : Sy) : a = b ↔ a.head = b.head ∧ a.low = b.low ∧ a.high = b.high := by
  cases a; cases b; simp
theorem pd_ext (a b : Pd) : a = b ↔ a.head = b.head ∧ a.body = b.body := by
  cases a; cases b; simp
theorem run_syNe (a b : Sy) (w : World) : (binOp .neq 49 (.agg #[.int .i64 a.head, .int .i64 a.low, .int .i64 a.high]) (.agg #[.int .i64 b.head, .int .i64 b.low, .int .i64 b.high])).run Try.prog w = .ok (.bool (!decide (a = b))) w := by
  rw [run_neq_struct, run_equalIn_agg (ht := by kernel_rfl) (hp := by kernel_rfl)]
  simp [Program.fieldsOf, Try.underlying49, Op.eqFields, part, Try.isAgg3, run_equalIn_int _ _ _ _ _ _ _ Try.underlying3]
  by_cases h0 : a.head = b.head <;> by_cases h1 : a.low = b.low <;> by_cases h2 : a.high = b.high <;> simp [h0, h1, h2, sy_ext]
theorem run_syGuard (x y : Operand) (xs ys : Array Value) (w : World) : (eqGuard .neq 49 x y (.agg xs) (.agg ys)).run Try.prog w = .ok () w := run_eqGuard_agg w .neq 49 x y xs ys (by kernel_rfl)

def eqCB (hd : Int) (ps : List Pd) (hd' : Int) (qs : List Pd) : Bool := decide (hd = hd' ∧ ps = qs)
def LfPost (hd : Int) (ps : List Pd) (hd' : Int) (qs : List Pd) (w : World) (e : Ending) (w' : World) : Prop := e = .returned (.bool (eqCB hd ps hd' qs)) ∧ Below w.heap.size w w'

theorem ne_at {α : Type} {xs ys : List α} {i : Nat} (h : i < xs.length) (h' : i < ys.length) (hn : xs[i] ≠ ys[i]) : xs ≠ ys := fun e => by
  subst e; exact hn rfl
theorem take_step {α : Type} {xs ys : List α} {i : Nat} (h : i < xs.length) (h' : i < ys.length) (ht : xs.take i = ys.take i) (he : xs[i] = ys[i]) : xs.take (i + 1) = ys.take (i + 1) := by
  rw [List.take_succ_eq_append_getElem h, List.take_succ_eq_append_getElem h', ht, he]

set_option maxRecDepth 100000 in
set_option maxHeartbeats 4000000 in
theorem lfCfg_any (hd hd' : Int) (ps qs : List Pd) (a a' : Option Addr) (c c' : Nat) (w : World) (hr : Pds w a ps) (hr' : Pds w a' qs) (hm : ps.length ≤ 1048576) (hm' : qs.length ≤ 1048576) (hs : Small ps) (hs' : Small qs) :
    Calls Try.prog 8 #[.agg #[.int .i64 hd, .slice a ps.length c], .agg #[.int .i64 hd', .slice a' qs.length c']] w (LfPost hd ps hd' qs w) := by
  have hb0 : Below w.heap.size w ((w.alloc (.cells #[.int .i64 hd, .slice a ps.length c] 25)).alloc (.cells #[.int .i64 hd', .slice a' qs.length c'] 25)) := (below_box _).alloc (by simp) _
  have o0 : ((w.alloc (.cells #[.int .i64 hd, .slice a ps.length c] 25)).alloc (.cells #[.int .i64 hd', .slice a' qs.length c'] 25)).cell? ⟨w.heap.size, 0, none⟩ = some (.int .i64 hd) := cell_alloc (by simp) _
  have o1 : ((w.alloc (.cells #[.int .i64 hd, .slice a ps.length c] 25)).alloc (.cells #[.int .i64 hd', .slice a' qs.length c'] 25)).cell? ⟨w.heap.size, 1, none⟩ = some (.slice a ps.length c) := cell_alloc (by simp) _
  have q0 : ((w.alloc (.cells #[.int .i64 hd, .slice a ps.length c] 25)).alloc (.cells #[.int .i64 hd', .slice a' qs.length c'] 25)).cell? ⟨w.heap.size + 1, 0, none⟩ = some (.int .i64 hd') := by
    have := (Own.new (w.alloc (.cells #[.int .i64 hd, .slice a ps.length c] 25)) 25 #[.int .i64 hd', .slice a' qs.length c']).cell 0
    rw [World.size_alloc] at this
    exact this.trans rfl
  have q1 : ((w.alloc (.cells #[.int .i64 hd, .slice a ps.length c] 25)).alloc (.cells #[.int .i64 hd', .slice a' qs.length c'] 25)).cell? ⟨w.heap.size + 1, 1, none⟩ = some (.slice a' qs.length c') := by
    have := (Own.new (w.alloc (.cells #[.int .i64 hd, .slice a ps.length c] 25)) 25 #[.int .i64 hd', .slice a' qs.length c']).cell 1
    rw [World.size_alloc] at this
    exact this.trans rfl
  have HR := Lib.hid (hr.keep hb0)
  have HR' := Lib.hid (hr'.keep hb0)
  have HB0 := Lib.hid hb0
  have HS := Lib.hid hs
  have HS' := Lib.hid hs'
  clear hr hr' hs hs' hb0
  go_enter Try.func8, Try.ntmps8
  by_cases hh : hd = hd'
  · have hh' : (hd != hd') = false := by simp [hh]
    have HH := Lib.hid hh
    clear hh
    by_cases hl : ps.length = qs.length
    · have hl' : ((ps.length : Int) != (qs.length : Int)) = false := by simp [hl]
      have HL := Lib.hid hl
      clear hl
      go_wp2_with fail
      generalize (w.alloc (.cells #[.int .i64 hd, .slice a ps.length c] 25)).alloc (.cells #[.int .i64 hd', .slice a' qs.length c'] 25) = W at *
      have HRW : Hid (∀ X, Below W.heap.size W X → Pds X a ps ∧ Pds X a' qs) := fun X hX => ⟨HR.out.keep hX, HR'.out.keep hX⟩
      have HBW : Hid (∀ X, Below W.heap.size W X → Below w.heap.size w X) := fun X hX => HB0.out.trans (hX.mono HB0.out.size)
      clear HR HR' HB0
      go_wp2
      go_loopw [5] (fun iv wr => ∃ i : Nat, i ≤ ps.length ∧ iv = .int .i64 i ∧ Hid (ps.take i = qs.take i) ∧ Hid (Below W.heap.size W wr)) (fun iv _ => ps.length - (intOf iv).toNat)
      case atStart => exact ⟨0, Nat.zero_le _, rfl, rfl, Below.refl _ _⟩
      case round =>
        obtain ⟨i, hi, rfl, HT, HBX⟩ := hrel
        replace o0 := cell_keep HBX.out o0
        replace o1 := cell_keep HBX.out o1
        replace q0 := cell_keep HBX.out q0
        replace q1 := cell_keep HBX.out q1
        by_cases hlt : i < ps.length
        · have hlt' : (i : Int) < (ps.length : Int) := by omega
          have hlq : i < qs.length := by have := HL.out; omega
          have hlq' : (i : Int) < (qs.length : Int) := by omega
          obtain ⟨b, off, rfl, K, kc, p0, p1, hsy⟩ := (HRW.out _ HBX.out).1.at_ hlt
          obtain ⟨b', off', rfl, K', kc', p0', p1', hsy'⟩ := (HRW.out _ HBX.out).2.at_ hlq
          have NE : Hid (ps[i] ≠ qs[i] → eqCB hd ps hd' qs = false) := fun h => decide_eq_false (fun e => ne_at hlt hlq h e.2)
          have EQ : Hid (ps[i] = qs[i] → ps.take (i + 1) = qs.take (i + 1)) := fun h => take_step hlt hlq HT.out h
          have hsm := HS.out _ (List.getElem_mem hlt)
          have hsm' := HS'.out _ (List.getElem_mem hlq)
          generalize ps[i] = p at *
          generalize qs[i] = q at *
          have HSY := Lib.hid hsy
          have HSY' := Lib.hid hsy'
          clear hsy hsy' HS HS'
          by_cases hph : p.head = q.head
          · have hph' : (p.head != q.head) = false := by simp [hph]
            have HPH := Lib.hid hph
            clear hph
            by_cases hbl : p.body.length = q.body.length
            · have hbl' : ((p.body.length : Int) != (q.body.length : Int)) = false := by simp [hbl]
              have HBL := Lib.hid hbl
              clear hbl
              go_wp2_with fail
              go_quiet (fail)
              go_wp2_with fail
              go_loopw [6] (fun jv wi => ∃ k : Nat, k ≤ p.body.length ∧ jv = .int .i64 k ∧ Hid (p.body.take k = q.body.take k) ∧ Hid (Below wr.heap.size wr wi)) (fun jv _ => p.body.length - (intOf jv).toNat)
              case atStart => exact ⟨0, Nat.zero_le _, rfl, rfl, below_drewN (Below.refl _ _) _⟩
              case round =>
                obtain ⟨k, hk, rfl, HK, HBI⟩ := hrel
                replace o1 := cell_keep HBI.out o1
                replace q1 := cell_keep HBI.out q1
                replace p1 := cell_keep HBI.out p1
                replace p1' := cell_keep HBI.out p1'
                have HBF : Hid (Below W.heap.size W _) := HBX.out.trans (HBI.out.mono HBX.out.size)
                clear o0 q0 p0 p0'
                by_cases hkl : k < p.body.length
                · have hkl' : (k : Int) < (p.body.length : Int) := by omega
                  have hkq : k < q.body.length := by have := HBL.out; omega
                  have hkq' : (k : Int) < (q.body.length : Int) := by omega
                  obtain ⟨sb, so, rfl, s0, s1, s2⟩ := (HSY.out.keep HBI.out).at_ hkl
                  obtain ⟨tb, to_, rfl, t0, t1, t2⟩ := (HSY'.out.keep HBI.out).at_ hkq
                  have NE2 : Hid (p.body[k] ≠ q.body[k] → eqCB hd ps hd' qs = false) := fun h => NE.out (fun e => ne_at hkl hkq h (congrArg Pd.body e))
                  have EQ2 : Hid (p.body[k] = q.body[k] → p.body.take (k + 1) = q.body.take (k + 1)) := fun h => take_step hkl hkq HK.out h
                  generalize p.body[k] = s at *
                  generalize q.body[k] = t at *
                  have G := run_syGuard
                  by_cases he : s = t
                  · have E : ∀ w, (binOp .neq 49 (.agg #[.int .i64 s.head, .int .i64 s.low, .int .i64 s.high]) (.agg #[.int .i64 t.head, .int .i64 t.low, .int .i64 t.high])).run Try.prog w = .ok (.bool false) w := fun w => by rw [run_syNe]; simp [he]
                    have HK2 := Lib.hid (EQ2.out he)
                    clear he HK EQ2 NE2
                    go_wp2
                    go_region_held3 (fun X => X.cell? ⟨w.heap.size, 1, none⟩ = some (.slice (some ⟨b, off, none⟩) ps.length c) ∧ X.cell? ⟨w.heap.size + 1, 1, none⟩ = some (.slice (some ⟨b', off', none⟩) qs.length c') ∧ X.cell? ⟨b, off + i * 2 + 1, none⟩ = some (.slice (some ⟨sb, so, none⟩) p.body.length kc) ∧ X.cell? ⟨b', off' + i * 2 + 1, none⟩ = some (.slice (some ⟨tb, to_, none⟩) q.body.length kc') ∧ X.cell? ⟨sb, so + k * 3, none⟩ = some (.int .i64 s.head) ∧ X.cell? ⟨sb, so + k * 3 + 1, none⟩ = some (.int .i64 s.low) ∧ X.cell? ⟨sb, so + k * 3 + 2, none⟩ = some (.int .i64 s.high) ∧ X.cell? ⟨tb, to_ + k * 3, none⟩ = some (.int .i64 t.head) ∧ X.cell? ⟨tb, to_ + k * 3 + 1, none⟩ = some (.int .i64 t.low) ∧ X.cell? ⟨tb, to_ + k * 3 + 2, none⟩ = some (.int .i64 t.high)) (exact ⟨o1, q1, p1, p1', s0, s1, s2, t0, t1, t2⟩) (fail)
                    go_wp2
                    go_roundw
                    case rel => exact ⟨k + 1, by omega, by go_num, HK2, HBI.out.drew⟩
                    case measure => simp [intOf]; omega
                  · have E : ∀ w, (binOp .neq 49 (.agg #[.int .i64 s.head, .int .i64 s.low, .int .i64 s.high]) (.agg #[.int .i64 t.head, .int .i64 t.low, .int .i64 t.high])).run Try.prog w = .ok (.bool true) w := fun w => by rw [run_syNe]; simp [he]
                    have FIN : Hid (eqCB hd ps hd' qs = false) := NE2.out he
                    have FB := Lib.hid (HBW.out _ HBF.out)
                    clear he HK EQ2 NE2 NE EQ
                    go_wp2
                    go_region_held3 (fun X => X.cell? ⟨w.heap.size, 1, none⟩ = some (.slice (some ⟨b, off, none⟩) ps.length c) ∧ X.cell? ⟨w.heap.size + 1, 1, none⟩ = some (.slice (some ⟨b', off', none⟩) qs.length c') ∧ X.cell? ⟨b, off + i * 2 + 1, none⟩ = some (.slice (some ⟨sb, so, none⟩) p.body.length kc) ∧ X.cell? ⟨b', off' + i * 2 + 1, none⟩ = some (.slice (some ⟨tb, to_, none⟩) q.body.length kc') ∧ X.cell? ⟨sb, so + k * 3, none⟩ = some (.int .i64 s.head) ∧ X.cell? ⟨sb, so + k * 3 + 1, none⟩ = some (.int .i64 s.low) ∧ X.cell? ⟨sb, so + k * 3 + 2, none⟩ = some (.int .i64 s.high) ∧ X.cell? ⟨tb, to_ + k * 3, none⟩ = some (.int .i64 t.head) ∧ X.cell? ⟨tb, to_ + k * 3 + 1, none⟩ = some (.int .i64 t.low) ∧ X.cell? ⟨tb, to_ + k * 3 + 2, none⟩ = some (.int .i64 t.high)) (exact ⟨o1, q1, p1, p1', s0, s1, s2, t0, t1, t2⟩) (fail)
                    go_wp2
                    go_ret
                    exact ⟨ret_bool (by first | rfl | rw [FIN.out]), FB.out.drew⟩
                · have hkl' : ¬ (k : Int) < (p.body.length : Int) := by omega
                  have HT2 : Hid (ps.take (i + 1) = qs.take (i + 1)) := EQ.out ((pd_ext p q).2 ⟨HPH.out, by
                    have e : k = p.body.length := by omega
                    have h := HK.out
                    rw [e, List.take_length, HBL.out, List.take_length] at h
                    exact h⟩)
                  clear HK HBI NE EQ HT HBX HSY HSY'
                  go_wp2
                  go_roundw
                  case rel => exact ⟨i + 1, by omega, by go_num, HT2, HBF⟩
                  case measure => simp [intOf]; omega
            · have hbl' : ((p.body.length : Int) != (q.body.length : Int)) = true := by simp only [bne_iff_ne, ne_eq]; omega
              have FIN : Hid (eqCB hd ps hd' qs = false) := NE.out (fun h => hbl (by rw [h]))
              have FB := Lib.hid (HBW.out _ HBX.out)
              clear hbl NE EQ
              go_wp2
              go_quiet (fail)
              go_wp2
              go_ret
              exact ⟨ret_bool (by first | rfl | rw [FIN.out]), below_drewN FB.out _⟩
          · have hph' : (p.head != q.head) = true := by simp only [bne_iff_ne, ne_eq]; exact hph
            have FIN : Hid (eqCB hd ps hd' qs = false) := NE.out (fun h => hph (by rw [h]))
            have FB := Lib.hid (HBW.out _ HBX.out)
            clear hph NE EQ
            go_wp2
            go_quiet (fail)
            go_wp2
            go_ret
            exact ⟨ret_bool (by first | rfl | rw [FIN.out]), below_drewN FB.out _⟩
        · have hlt' : ¬ (i : Int) < (ps.length : Int) := by omega
          have FIN : Hid (eqCB hd ps hd' qs = true) := decide_eq_true ⟨HH.out, by
            have e : i = ps.length := by omega
            have h := HT.out
            rw [e, List.take_length, HL.out, List.take_length] at h
            exact h⟩
          have FB := Lib.hid (HBW.out _ HBX.out)
          clear HT HBX
          go_wp2
          go_ret
          exact ⟨ret_bool (by first | rfl | rw [FIN.out]), FB.out⟩
    · have hl' : ((ps.length : Int) != (qs.length : Int)) = true := by simp only [bne_iff_ne, ne_eq]; omega
      have FIN : Hid (eqCB hd ps hd' qs = false) := decide_eq_false (fun h => hl (by rw [h.2]))
      clear hl HR HR'
      go_wp2
      go_ret
      exact ⟨ret_bool (by first | rfl | rw [FIN.out]), HB0.out⟩
  · have hh' : (hd != hd') = true := by simp only [bne_iff_ne, ne_eq]; exact hh
    have FIN : Hid (eqCB hd ps hd' qs = false) := decide_eq_false (fun h => hh h.1)
    clear hh HR HR'
    go_wp2
    go_ret
    exact ⟨ret_bool (by first | rfl | rw [FIN.out]), HB0.out⟩

end Go.Proofs.Ytkgiklmdpdakbaa

