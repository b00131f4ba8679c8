/- Whether productions are ok: impl.CfgOk and spec.CfgOk, one and the same. -/
import Derived.Test.YtafldjbmheopjaaC4
namespace Go.Proofs.Ytafldjbmheopjaa
open Go.RowKit
set_option linter.unusedVariables false

def pdOkB (hd last : Int) (p : Pd) : Bool := decide (0 ≤ p.head) && decide (last ≤ p.head) && decide (p.head < hd) && bodyOkB hd p.body

/-- The head of the production ahead of a place, or 0. -/
def lastAt (ps : List Pd) : Nat → Int
  | 0 => 0
  | j + 1 => match ps[j]? with | some p => p.head | none => 0
theorem lastAt_succ {ps : List Pd} {k : Nat} (h : k < ps.length) : lastAt ps (k + 1) = ps[k].head := by
  show (match ps[k]? with | some p => p.head | none => 0) = _
  rw [List.getElem?_eq_getElem h]

def OkTo (hd : Int) (ps : List Pd) (k : Nat) : Prop := ∀ j (h : j < ps.length), j < k → pdOkB hd (lastAt ps j) ps[j] = true
theorem OkTo.succ {hd : Int} {ps : List Pd} {k : Nat} (h : OkTo hd ps k) (hk : k < ps.length) (hp : pdOkB hd (lastAt ps k) ps[k] = true) : OkTo hd ps (k + 1) := by
  intro j hj hjk
  rcases Nat.lt_succ_iff_lt_or_eq.1 hjk with h3 | h3
  · exact h j hj h3
  · subst h3; exact hp

def allOk (hd : Int) (ps : List Pd) : Bool := (List.range ps.length).all (fun j => match ps[j]? with | some p => pdOkB hd (lastAt ps j) p | none => true)
theorem allOk_iff {hd : Int} {ps : List Pd} : allOk hd ps = true ↔ OkTo hd ps ps.length := by
  unfold allOk
  rw [List.all_eq_true]
  constructor
  · intro h j hj _
    have := h j (List.mem_range.2 hj)
    rw [List.getElem?_eq_getElem hj] at this
    exact this
  · intro h j hj
    have hj' := List.mem_range.1 hj
    rw [List.getElem?_eq_getElem hj']
    exact h j hj' hj'
theorem allOk_bad {hd : Int} {ps : List Pd} {k : Nat} (hk : k < ps.length) (hp : pdOkB hd (lastAt ps k) ps[k] = false) : allOk hd ps = false := by
  cases h : allOk hd ps
  · rfl
  · have := allOk_iff.1 h k hk hk
    rw [hp] at this; cases this

def cfgOkB (hd : Int) (ps : List Pd) : Bool := decide (1 ≤ hd) && decide (hd ≤ 200) && decide (ps.length ≤ 400) && allOk hd ps

set_option maxRecDepth 100000 in
set_option maxHeartbeats 2000000 in
theorem implOk_any (hd : Int) (ps : List Pd) (a : Option Addr) (c : Nat) (w : World) (hr : Pds w a ps) (hm : ps.length ≤ 1048576) (hs : Small ps) :
    Calls Try.prog 61 #[.agg #[.int .i64 hd, .slice a ps.length c]] w fun e w' => e = .returned (.bool (cfgOkB hd ps)) ∧ Below w.heap.size w w' := by
  have HR := Lib.hid hr
  have HS := Lib.hid hs
  clear hr hs
  by_cases h1 : hd < 1
  · have H := Lib.hid h1
    go_enter Try.func61, Try.ntmps61
    go_wp2
    go_ret
    exact ⟨ret_bool (by have := H.out; unfold cfgOkB; rw [decide_eq_false (by omega : ¬ 1 ≤ hd)]; rfl), below_box _⟩
  · by_cases h2 : 200 < hd
    · have H := Lib.hid h2
      go_enter Try.func61, Try.ntmps61
      go_wp2
      go_ret
      exact ⟨ret_bool (by have := H.out; unfold cfgOkB; rw [decide_eq_false (by omega : ¬ hd ≤ 200)]; simp), below_box _⟩
    · by_cases h3 : 400 < ps.length
      · have h3' : (400 : Int) < ps.length := by omega
        have H := Lib.hid h3
        go_enter Try.func61, Try.ntmps61
        go_wp2
        go_ret
        exact ⟨ret_bool (by have := H.out; unfold cfgOkB; rw [decide_eq_false (by omega : ¬ ps.length ≤ 400)]; simp), below_box _⟩
      · have h3' : ¬ (400 : Int) < ps.length := by omega
        have EQ : Hid (cfgOkB hd ps = allOk hd ps) := by
          show _ = _
          unfold cfgOkB
          rw [decide_eq_true (by omega : 1 ≤ hd), decide_eq_true (by omega : hd ≤ 200), decide_eq_true (by omega : ps.length ≤ 400)]; rfl
        go_enter Try.func61, Try.ntmps61
        go_wp2
        have HB0 : Below w.heap.size w (w.alloc (.cells #[.int .i64 hd, .slice a ps.length c] 33)) := below_box _
        have HR1 := Lib.hid (HR.out.keep HB0)
        have HC0 : (w.alloc (.cells #[.int .i64 hd, .slice a ps.length c] 33)).cell? ⟨w.heap.size, 0, none⟩ = some (.int .i64 hd) := by simp
        have HZ : (w.alloc (.cells #[.int .i64 hd, .slice a ps.length c] 33)).heap.size = w.heap.size + 1 := by simp
        generalize w.alloc (.cells #[.int .i64 hd, .slice a ps.length c] 33) = W at *
        have HB := Lib.hid HB0
        have HC := Lib.hid HC0
        clear HB0 HC0
        go_loopw [3, 23] (fun l i wr => ∃ k : Nat, k ≤ ps.length ∧ i = .int .i64 k ∧ (∃ z : Int, l = .int .i64 z ∧ z = lastAt ps k ∧ 0 ≤ z) ∧ Hid (OkTo hd ps k) ∧ Below W.heap.size W wr) (fun _ i _ => ps.length - (intOf i).toNat)
        case atStart => exact ⟨0, Nat.zero_le _, rfl, ⟨0, rfl, rfl, by omega⟩, fun j _ hj => by omega, Below.refl _ _⟩
        case round =>
          obtain ⟨k, hk, rfl, ⟨z, rfl, hz, hz0⟩, HK, hb⟩ := hrel
          have HZL := Lib.hid hz
          clear hz
          by_cases hlt : k < ps.length
          · obtain ⟨b, off, rfl, K, kc, hn⟩ := (HR1.out.keep hb).at_ hlt
            have hlt' : (k : Int) < (ps.length : Int) := by omega
            have hz1 := HS.out _ (List.getElem_mem hlt)
            have c0 := hn.c0
            have c1 := hn.c1
            have x0 := cell_keep hb HC.out
            have hx := cell_lt x0
            simp only at hx
            have HP := Lib.hid (rfl : ps[k] = ps[k])
            have EX : Hid (pdOkB hd z ps[k] = false → cfgOkB hd ps = false) := fun hp => by rw [EQ.out]; exact allOk_bad hlt (by rw [← HZL.out]; exact hp)
            have EY : Hid (pdOkB hd z ps[k] = true → OkTo hd ps (k + 1)) := fun hp => OkTo.succ HK hlt (by rw [← HZL.out]; exact hp)
            have EL := Lib.hid (lastAt_succ hlt)
            generalize ps[k] = p at *
            have HBW : Hid (∀ o, Below w.heap.size w (wr.alloc o)) := fun o => HB.out.trans ((hb.alloc hb.size o).mono HB.out.size)
            by_cases g1 : p.head < z
            · have G := Lib.hid g1
              go_wp2
              go_ret
              exact ⟨ret_bool (EX.out (by unfold pdOkB; have := G.out; rw [decide_eq_false (by omega : ¬ z ≤ p.head)]; simp)).symm, HBW.out _⟩
            · by_cases g2 : hd ≤ p.head
              · have G := Lib.hid g2
                go_wp2
                go_ret
                exact ⟨ret_bool (EX.out (by unfold pdOkB; have := G.out; rw [decide_eq_false (by omega : ¬ p.head < hd)]; simp)).symm, HBW.out _⟩
              · go_wp2_with fail
                refine (isBody_any p.body hd K kc _ (hn.k.keep (below_box _)) hz1).mono ?_
                rintro e w2 ⟨rfl, hb2⟩
                have hb' : Below W.heap.size W w2 := (hb.alloc hb.size _).trans (hb2.mono (by have := hb.size; simp; omega))
                have y0 : w2.cell? ⟨wr.heap.size, 0, none⟩ = some (.int .i64 p.head) := cell_keep hb2 (by simp)
                have hy := cell_lt y0
                simp only at hy
                have HBW2 := Lib.hid (HB.out.trans (hb'.mono HB.out.size))
                clear hb2 HBW hn c0 c1 x0
                cases q : bodyOkB hd p.body
                · have Q := Lib.hid q
                  go_wp2
                  go_ret
                  exact ⟨ret_bool (EX.out (by unfold pdOkB; rw [Q.out]; simp)).symm, HBW2.out⟩
                · have Q := Lib.hid q
                  have R : Hid (OkTo hd ps (k + 1)) := EY.out (by unfold pdOkB; rw [Q.out, decide_eq_true (by omega : 0 ≤ p.head), decide_eq_true (by omega : z ≤ p.head), decide_eq_true (by omega : p.head < hd)]; rfl)
                  go_wp2
                  go_roundw
                  case rel => exact ⟨k + 1, by omega, by go_num, ⟨_, rfl, EL.out.symm, by omega⟩, R, hb'⟩
                  case measure => simp [intOf]; omega
          · have hlt' : ¬ (k : Int) < (ps.length : Int) := by omega
            go_wp2
            go_ret
            have hkk : k = ps.length := by omega
            subst hkk
            exact ⟨ret_bool (by rw [EQ.out]; exact (allOk_iff.2 HK).symm), HB.out.trans (hb.mono HB.out.size)⟩

end Go.Proofs.Ytafldjbmheopjaa
