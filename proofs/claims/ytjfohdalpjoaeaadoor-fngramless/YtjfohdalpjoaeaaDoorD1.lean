/- What the reader of codes does: pick. -/
import Derived.Test.YtjfohdalpjoaeaaDoorY0
import Derived.IntWalk
import Derived.Laws.BitsAllLaws
import Derived.Laws.BitsLemmas
namespace Go.Proofs.YtjfohdalpjoaeaaDoor
open Go.RowKit
set_option linter.unusedVariables false

/-- The cells of bytes. -/
def byts (zs : List Int) : List Value := zs.map (.int .u8)
@[simp] theorem byts_length (zs : List Int) : (byts zs).length = zs.length := by simp [byts]
theorem Row.byt {w : World} {a : Option Addr} {zs : List Int} (h : Row w a (byts zs)) {k : Nat} (hk : k < zs.length) :
    ∃ b off, a = some ⟨b, off, none⟩ ∧ w.cell? ⟨b, off + k, none⟩ = some (.int .u8 zs[k]) := by
  obtain ⟨b, off, ha, hc⟩ := h.at_ (k := k) (by simpa using hk)
  exact ⟨b, off, ha, by rw [hc]; simp [byts]⟩

/-- Block 'g' is a reader of bytes that lie elsewhere; it has read at most N times; all this lies below block B. -/
def Rd (w : World) (B g N : Nat) : Prop :=
  ∃ (A : Option Addr) (cap p : Nat) (zs : List Int), Own w g 60 [.slice A zs.length cap, .int .i64 p] ∧ p ≤ N ∧ Row w A (byts zs) ∧ zs.length ≤ 2000 ∧ (∀ z ∈ zs, 0 ≤ z ∧ z ≤ 255) ∧ g < B ∧ (zs = [] ∨ ∃ b off, A = some ⟨b, off, none⟩ ∧ b < B)

/-- What keeps every block below B but maybe one from B on keeps the reader. -/
theorem Rd.keep {w w' : World} {B g N : Nat} (h : Rd w B g N) (hb : ∀ k, k < B → w'.heap[k]? = w.heap[k]?) : Rd w' B g N := by
  obtain ⟨A, cap, p, zs, hown, hp, hrow, hz, hzs, hg, hA⟩ := h
  refine ⟨A, cap, p, zs, (hb g hg).trans hown, hp, ?_, hz, hzs, hg, hA⟩
  rcases hA with h | ⟨b, off, rfl, hbB⟩
  · subst h; exact .inl rfl
  · rcases hrow with h | ⟨b', off', e', hc⟩
    · exact .inl h
    · injection e' with e'; injection e' with e1 e2; subst e1 e2
      exact .inr ⟨b, off, rfl, fun i hi => (World.cell?_of_block (w := w) (hb b hbB)).trans (hc i hi)⟩
theorem Rd.below {w w' : World} {B g N : Nat} (h : Rd w B g N) (hb : Below B w w') : Rd w' B g N := h.keep hb.block
theorem Rd.lt {w : World} {B g N : Nat} (h : Rd w B g N) : g < w.heap.size := by
  obtain ⟨A, cap, p, zs, hown, _⟩ := h
  exact hown.lt
theorem Rd.ltB {w : World} {B g N : Nat} (h : Rd w B g N) : g < B := by
  obtain ⟨A, cap, p, zs, hown, hp, hrow, hz, hzs, hg, hA⟩ := h
  exact hg
theorem Rd.mono {w : World} {B B' g N N' : Nat} (h : Rd w B g N) (hB : B ≤ B') (hN : N ≤ N') : Rd w B' g N' := by
  obtain ⟨A, cap, p, zs, hown, hp, hrow, hz, hzs, hg, hA⟩ := h
  exact ⟨A, cap, p, zs, hown, by omega, hrow, hz, hzs, by omega, hA.imp id fun ⟨b, off, h1, h2⟩ => ⟨b, off, h1, by omega⟩⟩
theorem Rd.drewN {w : World} {B g N : Nat} (h : Rd w B g N) (n : Nat) : Rd (w.drewN n) B g N := h.keep fun _ _ => rfl
theorem Rd.drew {w : World} {B g N : Nat} (h : Rd w B g N) : Rd w.drew B g N := h.keep fun _ _ => rfl
theorem Rd.grown {w w' : World} {B g N : Nat} {row : Option Nat} (h : Rd w B g N) (hB : B ≤ w.heap.size) (hg : w.grownBy w' row) (hr : ∀ k, row = some k → B ≤ k) : Rd w' B g N :=
  h.keep fun k hk => hg.block k (by omega) (fun e => by have := hr k e.symm; omega)
theorem Rd.alloc {w : World} {B g N : Nat} (h : Rd w B g N) (hB : B ≤ w.heap.size) (o : Obj) : Rd (w.alloc o) B g N :=
  h.below ((Below.refl _ _).alloc hB o)
theorem Rd.setCell {w : World} {B g N : Nat} (h : Rd w B g N) {p : Addr} (hp : B ≤ p.block) (u : Value) : Rd (w.setCell p u) B g N :=
  h.below ((Below.refl _ _).setCell hp u)

/-- A number from 0 to n-1 is drawn; only the reader's block has turned. -/
def PickPost (w : World) (B g N : Nat) (n : Int) (e : Ending) (w' : World) : Prop :=
  ∃ v : Int, e = .returned (.int .i64 v) ∧ 0 ≤ v ∧ (v < n ∨ v = 0) ∧ Rd w' B g (N + 1) ∧ w.grownBy w' (some g)

theorem Rd.row {w : World} {g cap : Nat} {p : Int} {n : Nat} {A : Option Addr} {zs : List Int} (hown : Own w g 60 [.slice A n cap, .int .i64 p]) (hrow : Row w A (byts zs)) (u : Value) : Row (w.setCell ⟨g, 1, none⟩ u) A (byts zs) := by
  rcases hrow with h | ⟨b, off, hA, hc⟩
  · exact .inl h
  · refine .inr ⟨b, off, hA, fun i hi => ?_⟩
    have hcell := hc i hi
    have hne : b ≠ g := by
      rintro rfl
      rw [hown.cell] at hcell
      rcases Nat.lt_or_ge (off + i) 2 with h2 | h2
      · rcases (show off + i = 0 ∨ off + i = 1 by omega) with h3 | h3 <;> rw [h3] at hcell <;> simp [byts] at hcell
      · rw [List.getElem?_eq_none (by simpa using h2)] at hcell; cases hcell
    rw [World.cell?_setCell_far _ _ _ _ (fun e => hne e.symm)]
    exact hcell

theorem Rd.step {w : World} {B g N cap p : Nat} {A : Option Addr} {zs : List Int} (hown : Own w g 60 [.slice A zs.length cap, .int .i64 p]) (hp : p ≤ N) (hrow : Row w A (byts zs)) (hz : zs.length ≤ 2000) (hzs : ∀ z ∈ zs, 0 ≤ z ∧ z ≤ 255) (hg : g < B) (hA : zs = [] ∨ ∃ b off, A = some ⟨b, off, none⟩ ∧ b < B) (m : Nat) :
    Rd ((w.setCell ⟨g, 1, none⟩ (.int .i64 ((p : Int) + 1))).drewN m) B g (N + 1) ∧ w.grownBy ((w.setCell ⟨g, 1, none⟩ (.int .i64 ((p : Int) + 1))).drewN m) (some g) := by
  have ho : Own (w.setCell ⟨g, 1, none⟩ (.int .i64 ((p : Int) + 1))) g 60 [.slice A zs.length cap, .int .i64 ((p + 1 : Nat) : Int)] := by simpa using hown.set_ 1 (.int .i64 ((p : Int) + 1))
  refine ⟨⟨A, cap, p + 1, zs, ho.drewN m, by omega, (Rd.row hown hrow _).drewN m, hz, hzs, hg, hA⟩, ⟨rfl, rfl, rfl, by simp [World.setCell], fun i hi hne => ?_⟩⟩
  exact Below.heap_setCell w ⟨g, 1, none⟩ _ i (fun e => hne (by rw [e]))

theorem xor_nonneg (x y : Int) (hx : 0 ≤ x) (hx1 : x < 4611686018427387904) (hy : 0 ≤ y) (hy1 : y < 4611686018427387904) : 0 ≤ bits .xor .i64 x y := by
  obtain ⟨a, rfl⟩ := Int.eq_ofNat_of_zero_le hx
  obtain ⟨b, rfl⟩ := Int.eq_ofNat_of_zero_le hy
  have h1 : (BitVec.ofInt 64 (a : Int)).toNat = a := by rw [BitVec.ofInt_natCast, BitVec.toNat_ofNat]; exact Nat.mod_eq_of_lt (by omega)
  have h2 : (BitVec.ofInt 64 (b : Int)).toNat = b := by rw [BitVec.ofInt_natCast, BitVec.toNat_ofNat]; exact Nat.mod_eq_of_lt (by omega)
  have hlt : a ^^^ b < 2 ^ 62 := Nat.xor_lt_two_pow (by omega) (by omega)
  show 0 ≤ IntKind.i64.wrap ((BitVec.ofInt 64 (a : Int) ^^^ BitVec.ofInt 64 (b : Int)).toNat : Int)
  rw [BitVec.toNat_xor, h1, h2, IntKind.wrap_i64]
  omega
theorem tmod_nat (a b : Nat) : (a : Int).tmod b = ((a % b : Nat) : Int) := by rw [Int.tmod_eq_emod_of_nonneg (by omega)]; rfl
theorem tdiv_nat (a b : Nat) : (a : Int).tdiv b = ((a / b : Nat) : Int) := by rw [Int.tdiv_eq_ediv_of_nonneg (by omega)]; rfl

set_option maxRecDepth 100000 in
set_option maxHeartbeats 1000000 in
theorem pick_any (B g N : Nat) (n : Int) (w : World) (hrd : Rd w B g N) (hN : N ≤ 100000) (hn : n ≤ 100000) (hn0 : -100000 ≤ n) :
    Calls Tryd.prog 14 #[.pointer (some ⟨g, 0, none⟩), .int .i64 n] w (PickPost w B g N n) := by
  obtain ⟨A, cap, p, zs, hown, hp, hrow, hz, hzs, hgB, hA⟩ := hrd
  have HST := Lib.hid (Rd.step hown hp hrow hz hzs hgB hA)
  clear hA
  have h0 := hown.cell_ (i := 0) (by simp)
  have h1 := hown.cell_ (i := 1) (by simp)
  have f1 := hown.frozen 1
  simp at h0 h1
  have HZS := Lib.hid hzs
  by_cases hn1 : n < 1
  · clear hown hrow hzs
    go_enter Tryd.func14, Tryd.ntmps14
    go_wp2
    go_ret
    exact ⟨0, rfl, by omega, .inr rfl, (HST.out 0).1, (HST.out 0).2⟩
  · by_cases hl : zs.length = 0
    · have hl' : ((zs.length : Int) == 0) = true := by simp [hl]
      have hn1' : 1 ≤ n := by omega
      clear hown hrow hzs hl
      go_enter Tryd.func14, Tryd.ntmps14
      go_wp2
      go_ret
      exact ⟨0, rfl, by omega, .inr rfl, (HST.out 0).1, (HST.out 0).2⟩
    · have hl' : ((zs.length : Int) == 0) = false := by rw [beq_eq_false_iff_ne]; omega
      have HR := Lib.hid (Rd.row hown hrow (.int .i64 ((p : Int) + 1)))
      by_cases hk : p < zs.length
      · obtain ⟨b, off, rfl, hc⟩ := HR.out.byt hk
        have hv := HZS.out _ (List.getElem_mem hk)
        clear hown hrow hzs
        go_enter Tryd.func14, Tryd.ntmps14
        go_wp2
        go_ret
        exact ⟨_, rfl, Int.emod_nonneg _ (by omega), .inl (Int.emod_lt_of_pos _ (by omega)), (HST.out 0).1, (HST.out 0).2⟩
      · have hlp : 0 < zs.length := by omega
        have hm1 := Nat.mod_lt p hlp
        have hm2 := Nat.mod_lt (p * 7 + 3) hlp
        obtain ⟨b, off, rfl, hc1⟩ := HR.out.byt hm1
        obtain ⟨b', off', e', hc2⟩ := HR.out.byt hm2
        simp only [Option.some.injEq, Addr.mk.injEq] at e'
        obtain ⟨rfl, rfl, -⟩ := e'
        have hv1 := HZS.out _ (List.getElem_mem hm1)
        have hv2 := HZS.out _ (List.getElem_mem hm2)
        generalize hg1 : zs[p % zs.length] = z1 at hc1 hv1
        generalize hg2 : zs[(p * 7 + 3) % zs.length] = z2 at hc2 hv2
        clear hg1 hg2
        have hdv : p / zs.length ≤ p := Nat.div_le_self _ _
        obtain ⟨i1, e1⟩ : ∃ i1, p % zs.length = i1 := ⟨_, rfl⟩
        obtain ⟨i2, e2⟩ : ∃ i2, (p * 7 + 3) % zs.length = i2 := ⟨_, rfl⟩
        obtain ⟨q, e3⟩ : ∃ q, p / zs.length = q := ⟨_, rfl⟩
        rw [e1] at hm1 hc1
        rw [e2] at hm2 hc2
        rw [e3] at hdv
        have t1 : (p : Int) % (zs.length : Int) = (i1 : Int) := by rw [← e1]; simp
        have t2 : ((p : Int) * 7 + 3) % (zs.length : Int) = (i2 : Int) := by rw [← e2]; simp
        have t3 : (p : Int) / (zs.length : Int) = (q : Int) := by rw [← e3]; simp
        have b1 : (i1 : Int) < (zs.length : Int) := by omega
        have b2 : (i2 : Int) < (zs.length : Int) := by omega
        have c1 : IntKind.i64.wrap (z1 * 131) = z1 * 131 := IntWalk.i64_in _ (by omega)
        have c2 : IntKind.i64.wrap (z2 * 1117) = z2 * 1117 := IntWalk.i64_in _ (by omega)
        clear e1 e2 e3
        clear hown hrow hzs
        go_enter Tryd.func14, Tryd.ntmps14
        go_wp2
        go_quiet (fail)
        go_wp2
        go_ret
        refine ⟨_, rfl, ?_, ?_, (HST.out _).1, (HST.out _).2⟩
        · exact Int.tmod_nonneg _ (xor_nonneg _ _ (by omega) (by omega) (by omega) (by omega))
        · exact .inl (by rw [Int.tmod_eq_emod_of_nonneg (xor_nonneg _ _ (by omega) (by omega) (by omega) (by omega))]; exact Int.emod_lt_of_pos _ (by omega))

end Go.Proofs.YtjfohdalpjoaeaaDoor
