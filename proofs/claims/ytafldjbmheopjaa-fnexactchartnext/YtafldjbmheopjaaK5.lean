/- One production is applied: the closure of impl.CfgLeast. And a frame: which blocks may turn. -/
import Derived.Test.YtafldjbmheopjaaK4
namespace Go.Proofs.Ytafldjbmheopjaa
open Go.RowKit
set_option linter.unusedVariables false

/-- What a step leaves: blocks outside stay; what is new in the footprint is a new block. -/
structure Fr (F F' : Nat → Prop) (w w' : World) : Prop where
  os : w'.os = w.os
  tape : w'.tape = w.tape
  output : w'.output = w.output
  size : w.heap.size ≤ w'.heap.size
  block : ∀ k, k < w.heap.size → ¬ F k → w'.heap[k]? = w.heap[k]?
  foot : ∀ k, k < w.heap.size → F' k → F k

section
variable {F F' F'' : Nat → Prop} {w w' w'' : World} {base : Nat}
theorem Fr.refl (F : Nat → Prop) (w : World) : Fr F F w w := ⟨rfl, rfl, rfl, Nat.le_refl _, fun _ _ _ => rfl, fun _ _ h => h⟩
theorem Fr.trans (h : Fr F F' w w') (h' : Fr F' F'' w' w'') : Fr F F'' w w'' :=
  ⟨h'.os.trans h.os, h'.tape.trans h.tape, h'.output.trans h.output, Nat.le_trans h.size h'.size, fun k hk hF => (h'.block k (Nat.lt_of_lt_of_le hk h.size) (fun q => hF (h.foot k hk q))).trans (h.block k hk hF), fun k hk q => h.foot k hk (h'.foot k (Nat.lt_of_lt_of_le hk h.size) q)⟩
theorem Fr.of_below (F : Nat → Prop) (hb : Below w.heap.size w w') : Fr F F w w' := ⟨hb.os, hb.tape, hb.output, hb.size, fun k hk _ => hb.block k hk, fun _ _ h => h⟩
theorem Fr.below (h : Fr F F' w w') (hF : ∀ k, F k → base ≤ k) (hb : base ≤ w.heap.size) : Below base w w' := ⟨h.os, h.tape, h.output, h.size, fun k hk => h.block k (by omega) (fun q => by have := hF k q; omega)⟩
theorem Fr.own {g : Nat} {t : TypeId} {ys : List Value} (h : Fr F F' w w') (ho : Own w g t ys) (hg : ¬ F g) : Own w' g t ys := (h.block g ho.lt hg).trans ho
theorem Fr.cell {p : Addr} {x : Value} (h : Fr F F' w w') (hc : w.cell? p = some x) (hg : ¬ F p.block) : w'.cell? p = some x := by
  rw [World.cell?_of_block (h.block p.block (cell_lt hc) hg)]; exact hc
theorem Fr.setCell (h : Fr F F' w w') {p : Addr} (hp : F' p.block) (v : Value) : Fr F F' w (w'.setCell p v) :=
  ⟨h.os, h.tape, h.output, by simpa using h.size, fun k hk hF => by
    rw [← h.block k hk hF]
    exact Below.heap_setCell w' p v k (fun e => hF (h.foot k hk (by rw [e]; exact hp))), h.foot⟩
theorem Fr.row {A : Option Addr} {xs : List Value} (h : Fr F F' w w') (hr : Row w A xs) (hA : ∀ p, A = some p → ¬ F p.block) : Row w' A xs := by
  rcases hr with hr | ⟨b, off, ha, hc⟩
  · exact .inl hr
  · exact .inr ⟨b, off, ha, fun i hi => h.cell (hc i hi) (by have := hA ⟨b, off, none⟩ ha; exact this)⟩
theorem Fr.ownsRow {e : TypeId} {size : Nat} {v : Value} {n : Nat} {xs : List Value} (h : Fr F F' w w') (ho : w.ownsRow base e size v n xs) (hv : ∀ b, v.ownBlock = some b → ¬ F b) : w'.ownsRow base e size v n xs := by
  rcases ho with ⟨hl, ⟨rfl, rfl⟩ | ⟨g, cap, cur, rfl, h1, h2, h3⟩⟩
  · exact ⟨hl, .inl ⟨rfl, rfl⟩⟩
  · exact ⟨hl, .inr ⟨g, cap, cur, rfl, h1, (h.block g (Array.getElem?_eq_some_iff.1 h2).1 (hv g rfl)).trans h2, h3⟩⟩
end

/-- What the closure leaves: the list lessened where it can be, one block written. -/
def ApplyPost (g cap n base : Nat) (L : List Int) (p : Pd) (w : World) (e : Ending) (w' : World) : Prop :=
  e = .returned (.bool (decide (Less L p))) ∧ w'.ownsRow base 3 1 (.slice (some ⟨g, 0, none⟩) n cap) n (ints (if Less L p then L.set p.head.toNat (sumOf L p.body) else L)) ∧ Fr (fun k => k = g) (fun k => k = g) w w'

set_option maxRecDepth 100000 in
set_option maxHeartbeats 2000000 in
theorem clos29 (lb g cap n base : Nat) (L : List Int) (p : Pd) (K : Option Addr) (kc : Nat) (w : World) (hc : w.cell? ⟨lb, 0, none⟩ = some (.slice (some ⟨g, 0, none⟩) n cap)) (ho : w.ownsRow base 3 1 (.slice (some ⟨g, 0, none⟩) n cap) n (ints L)) (hL : L.length = n)
    (hk : Syms w K p.body) (hb : BodyIn n p.body) (hg : Good L) (hn : n ≤ 200) (h0 : 0 ≤ p.head) (h1 : p.head < n) :
    Calls Try.prog 85 #[.agg #[.int .i64 p.head, .slice K p.body.length kc], .pointer (some ⟨lb, 0, none⟩)] w (ApplyPost g cap n base L p w) := by
  have hlb := cell_lt hc
  simp only at hlb
  have HK := Lib.hid hk
  have HB := Lib.hid hb
  have HG := Lib.hid hg
  have HL := Lib.hid hL
  have hb2 := hb.1
  have HO := Lib.hid ho
  clear hk hb hg hL ho
  go_enter Try.func85, Try.ntmps85
  go_wp2_with fail
  refine (leastSum_n n p.body L K kc (some ⟨g, 0, none⟩) cap _ (HK.out.keep (below_box _)) ((own_row HO.out).keep (below_box _)) HL.out HB.out HG.out hn).mono ?_
  rintro e w2 ⟨rfl, hbw⟩
  have bw : Below w.heap.size w w2 := (below_box _).trans (hbw.mono (by simp))
  have hls : LS w2 g cap L w2 → True := fun _ => trivial
  have ho2 := own_keep HO.out bw
  have hc2 := cell_keep bw hc
  obtain ⟨x, hx⟩ : ∃ x : Nat, p.head = x := ⟨p.head.toNat, by omega⟩
  have y0 : w2.cell? ⟨w.heap.size, 0, none⟩ = some (.int .i64 p.head) := cell_keep hbw (by simp)
  rw [hx] at y0
  have hy := cell_lt y0
  simp only at hy
  obtain ⟨z, hz⟩ : ∃ z : Int, sumOf L p.body = z := ⟨_, rfl⟩
  have hzb := sumOf_bound L p.body hb2
  rw [hz] at hzb ⊢
  obtain ⟨b', off', e', ca⟩ := at_row (own_row ho2) (h := p.head) h0 (by rw [HL.out]; exact h1)
  injection e' with e'
  injection e' with e1 e2
  subst e1 e2
  rw [hx] at ca
  simp only [Int.toNat_natCast, Nat.zero_add] at ca
  obtain ⟨v, hv⟩ : ∃ v : Int, at_ L (x : Int) = v := ⟨_, rfl⟩
  rw [hv] at ca
  have HV := Lib.hid hv
  have HX := Lib.hid hx
  have HZ := Lib.hid hz
  have hxk' : (x : Int) < (n : Int) := by omega
  have hxk : x < n := by omega
  have fz : w2.frozen? ⟨g, x, none⟩ = false := own_frozen ho2 x
  have HO2 := Lib.hid ho2
  have FR := Lib.hid (Fr.of_below (fun k => k = g) bw)
  have HBW := Lib.hid bw
  clear hv hx hz hc hbw bw ho2 hls
  have no : ∀ (LE : ¬ Less L p), Hid (ApplyPost g cap n base L p w (.returned (.bool false)) w2) := fun LE => ⟨by rw [decide_eq_false LE], by rw [if_neg LE]; exact HO2.out, FR.out⟩
  have yes : ∀ (LE : Less L p), Hid (ApplyPost g cap n base L p w (.returned (.bool true)) (w2.setCell ⟨g, x, none⟩ (.int .i64 z))) := fun LE => by
    refine ⟨by rw [decide_eq_true LE], ?_, FR.out.setCell (p := ⟨g, x, none⟩) rfl _⟩
    rw [if_pos LE]
    have := own_set HO2.out x hxk (.int .i64 z)
    rw [ints_set] at this
    rw [HX.out, HZ.out]
    simpa using this
  have NO := Lib.hid no
  have YES := Lib.hid yes
  clear no yes
  by_cases q : z < 0
  · have A := NO.out (fun h => by have := h.1; rw [HZ.out] at this; omega)
    go_wp2
    go_ret
    exact A.out
  · by_cases q1 : v < 0
    · have A := YES.out ⟨by rw [HZ.out]; omega, .inl (by rw [HX.out, HV.out]; omega)⟩
      have q1' : ¬ (0 : Int) ≤ v := by omega
      go_wp2
      go_ret
      exact A.out
    · have q1' : (0 : Int) ≤ v := by omega
      by_cases q2 : v ≤ z
      · have A := NO.out (fun h => by have := h.2; rw [HX.out, HV.out, HZ.out] at this; omega)
        go_wp2
        go_ret
        exact A.out
      · have A := YES.out ⟨by rw [HZ.out]; omega, .inr (by rw [HX.out, HV.out, HZ.out]; omega)⟩
        go_wp2
        go_ret
        exact A.out

end Go.Proofs.Ytafldjbmheopjaa
