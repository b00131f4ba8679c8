/- Rows that a call owns; what the reader of codes does: pick, l6Open, of, l6Many (carried from an elder seat). -/
import Derived.Test.YtkhcappjhefkjaaGreatDoorBase
import Derived.Deep.AppendSrc
import Derived.Maps.AppendAt
import Derived.IntWalk
import Derived.Laws.BitsAllLaws
import Derived.Laws.BitsLemmas
import Derived.Laws.BytesArg
namespace Go.Proofs.YtkhcappjhefkjaaGreatDoor
open Go.RowKit
set_option linter.unusedVariables false


section
variable {w w' : World} {base : Nat} {e : TypeId} {size : Nat} {v : Value} {n : Nat} {xs : List Value}
theorem own_form (h : w.ownsRow base e size v n xs) : ∃ A cap, v = .slice A n cap := by
  rcases h.2 with ⟨rfl, rfl⟩ | ⟨g, cap, cur, rfl, _⟩
  · exact ⟨_, _, rfl⟩
  · exact ⟨_, _, rfl⟩
theorem own_keep (h : w.ownsRow base e size v n xs) (hb : Below w.heap.size w w') : w'.ownsRow base e size v n xs := by
  rcases h with ⟨hl, ⟨rfl, rfl⟩ | ⟨g, cap, cur, rfl, h1, h2, h3⟩⟩
  · exact ⟨hl, .inl ⟨rfl, rfl⟩⟩
  · exact ⟨hl, .inr ⟨g, cap, cur, rfl, h1, (hb.block g (Array.getElem?_eq_some_iff.1 h2).1).trans h2, h3⟩⟩
/-- What leaves the row's block as it is leaves the row. -/
theorem own_same (h : w.ownsRow base e size v n xs) (hb : ∀ b, v.ownBlock = some b → w'.heap[b]? = w.heap[b]?) : w'.ownsRow base e size v n xs := by
  rcases h with ⟨hl, ⟨rfl, rfl⟩ | ⟨g, cap, cur, rfl, h1, h2, h3⟩⟩
  · exact ⟨hl, .inl ⟨rfl, rfl⟩⟩
  · exact ⟨hl, .inr ⟨g, cap, cur, rfl, h1, (hb g rfl).trans h2, h3⟩⟩
theorem own_base {base' : Nat} (h : w.ownsRow base e size v n xs) (hb : base' ≤ base) : w.ownsRow base' e size v n xs := by
  rcases h with ⟨hl, ⟨rfl, rfl⟩ | ⟨g, cap, cur, rfl, h1, h2, h3⟩⟩
  · exact ⟨hl, .inl ⟨rfl, rfl⟩⟩
  · exact ⟨hl, .inr ⟨g, cap, cur, rfl, by omega, h2, h3⟩⟩
theorem own_some (h : w.ownsRow base e size v n xs) (hn : 0 < n) : ∃ g cap, v = .slice (some ⟨g, 0, none⟩) n cap ∧ base ≤ g ∧ g < w.heap.size := by
  rcases h with ⟨hl, ⟨rfl, rfl⟩ | ⟨g, cap, cur, rfl, h1, h2, h3⟩⟩
  · omega
  · exact ⟨g, cap, rfl, h1, (Array.getElem?_eq_some_iff.1 h2).1⟩
theorem own_far (h : w.ownsRow base e size v n xs) {p : Addr} (hp : ∀ b, v.ownBlock = some b → b ≠ p.block) (u : Value) : (w.setCell p u).ownsRow base e size v n xs :=
  own_same h fun b hb => Below.heap_setCell w p u b (hp b hb)
theorem own_rowN {A : Option Addr} {c : Nat} (h : w.ownsRow base e size (.slice A n c) n xs) : Row w A xs := by
  rcases h.2 with ⟨hv, rfl⟩ | ⟨g, cap, cur, hv, _⟩
  · have := h.1; simp at this; exact .inl this
  · have hA : A = some ⟨g, 0, none⟩ := by injection hv
    subst hA
    refine .inr ⟨g, 0, rfl, fun i hi => ?_⟩
    have hc := h.cells (g := g) rfl i xs[i] (List.getElem?_eq_getElem hi)
    have e1 : (Addr.add ⟨g, 0, none⟩ i) = ⟨g, 0 + i, none⟩ := by unfold Addr.add; split <;> simp_all
    rw [e1] at hc; exact hc
theorem own_cellN {g cap : Nat} (h : w.ownsRow base e size (.slice (some ⟨g, 0, none⟩) n cap) n xs) (i : Nat) : ∀ u, xs[i]? = some u → w.cell? ⟨g, i, none⟩ = some u := by
  intro u hu
  have hc := h.cells (g := g) rfl i u hu
  have e1 : (Addr.add ⟨g, 0, none⟩ i) = ⟨g, i, none⟩ := by unfold Addr.add; split <;> simp_all
  rw [e1] at hc; exact hc
theorem own_kind (h : w.ownsRow base e size v n xs) {k : Nat} (hk : v.ownBlock = some k) : ∃ cur, w.heap[k]? = some (.cells cur e (0, 0)) := by
  rcases h.2 with ⟨rfl, _⟩ | ⟨g, cap, cur, rfl, _, h1, _⟩
  · cases hk
  · injection hk with hk; exact ⟨cur, by rw [← hk]; exact h1⟩
/-- Rows of elements of two types lie apart. -/
theorem own_apart {base' : Nat} {e' : TypeId} {size' n' : Nat} {v' : Value} {ys : List Value} (h : w.ownsRow base e size v n xs) (h' : w.ownsRow base' e' size' v' n' ys) (he : e ≠ e') {k : Nat} (hk : v.ownBlock = some k) : v'.ownBlock ≠ some k := by
  intro hk'
  obtain ⟨c1, h1⟩ := own_kind h hk
  obtain ⟨c2, h2⟩ := own_kind h' hk'
  rw [h1] at h2
  injection h2 with h2
  injection h2 with _ h2
  exact he h2
theorem own_ne_own {t : TypeId} {g : Nat} {ys : List Value} (h : w.ownsRow base e size v n xs) (h' : Own w g t ys) (he : e ≠ t) : ∀ b, v.ownBlock = some b → b ≠ g := by
  intro b hb e2
  obtain ⟨c1, h1⟩ := own_kind h hb
  subst e2
  unfold Own at h'
  rw [h1] at h'
  injection h' with h'
  injection h' with _ h'
  exact he h'
/-- A row of a new block. -/
theorem own_new (w : World) (e : TypeId) (size base n : Nat) (cs : List Value) (hb : base ≤ w.heap.size) (hl : cs.length = n * size) (hn : n ≤ maxLen) :
    (w.alloc (.cells cs.toArray e)).ownsRow base e size (.slice (some ⟨w.heap.size, 0, none⟩) n n) n cs := by
  refine ⟨hl, .inr ⟨w.heap.size, n, cs.toArray, rfl, hb, by simpa [Own] using Own.new w e cs.toArray, Nat.le_refl _, hn, by simpa using hl, by rw [← hl]; simp⟩⟩
/-- The first ones of a row. -/
theorem own_take {A : Option Addr} {cap m : Nat} (h : w.ownsRow base e size (.slice A n cap) n xs) (hm : m ≤ n) (h0 : 0 < n) : w.ownsRow base e size (.slice A m cap) m (xs.take (m * size)) := by
  rcases h with ⟨hl, ⟨hv, hn⟩ | ⟨g, cap', cur, hv, h1, h2, h3, h4, h5, h6⟩⟩
  · omega
  · injection hv with a1 a2 a3
    subst a1 a3
    have hms : m * size ≤ n * size := Nat.mul_le_mul_right _ hm
    refine ⟨by rw [List.length_take]; omega, .inr ⟨g, cap, cur, rfl, h1, h2, by omega, h4, h5, ?_⟩⟩
    rw [← h6, List.take_take, Nat.min_eq_left hms]
/-- Nothing is appended. -/
theorem run_append_none {P : Program} (w : World) (base : Nat) (t ty e : TypeId) (i : TypeInfo) (size : Nat) (ht : P.underlying t = some (.slice e)) (hi : P.info? e = some i) (hsize : i.size = size) (v : Value) (n : Nat) (xs : List Value) (hown : w.ownsRow base e size v n xs) (c : Nat) :
    (Builtin.append_ #[t, t] ty #[v, .slice none 0 c]).run P w = .ok v w := by
  rcases hown.2 with ⟨rfl, rfl⟩ | ⟨g, cap, cur, rfl, h1, h2, h3, h4, h5, h6⟩
  · simp [Builtin.append_, run_underlying ht, sizeOf, typeInfo, hi, Builtin.lenOf, Builtin.firstCells, loadCells, loadCellsFrom]
  · have := run_append_room_src (P := P) w t t ty e i ht hi g 0 n cap (.slice none 0 c) 0 [] (Src.ofNil (w := w) ht c) (by omega) (by simp) (by simp)
    rw [this]
    simp [World.setCells]
/-- Whatever slice is appended. -/
theorem run_append_any {P : Program} (w : World) (base : Nat) (t ty e : TypeId) (i : TypeInfo) (z : Value) (size bytes : Nat) (ht : P.underlying t = some (.slice e)) (hi : P.info? e = some i) (hz : i.zero = some z)
    (hsize : i.size = size) (hby : i.bytes = bytes) (hzs : z.cells.size = size) (hsz : 0 < size) (v : Value) (n : Nat) (xs : List Value) (hown : w.ownsRow base e size v n xs)
    (A : Option Addr) (m c : Nat) (news : List Value) (hA : A = none → m = 0) (hl : news.length = m * size) (hnews : ∀ ad, A = some ad → ∀ j u, news[j]? = some u → w.cell? (ad.add j) = some u) (h1 : ∀ u ∈ news, u.oneCell' = true)
    (h63 : n + m ≤ maxLen) (hbytes : (n + m) * bytes ≤ 140737488355328) (hbase : base ≤ w.heap.size) :
    ∃ v' w', (Builtin.append_ #[t, t] ty #[v, .slice A m c]).run P w = .ok v' w' ∧ w'.ownsRow base e size v' (n + m) (xs ++ news) ∧ w.grownBy w' v.ownBlock ∧ (v'.ownBlock = v.ownBlock ∨ v'.ownBlock = some w.heap.size) := by
  cases A with
  | none =>
    have hm := hA rfl
    subst hm
    have hn : news = [] := List.eq_nil_of_length_eq_zero (by simpa using hl)
    subst hn
    exact ⟨v, w, run_append_none w base t ty e i size ht hi hsize v n xs hown c, by simpa using hown, ⟨rfl, rfl, rfl, Nat.le_refl _, fun _ _ _ => rfl⟩, .inl rfl⟩
  | some ad =>
    obtain ⟨v', w', h1, h2, h3, _, h5⟩ := run_append_own_at (P := P) w base t ty e i z size bytes ht hi hz hsize hby hzs hsz v n xs hown ad m c news hl (hnews ad rfl) h1 h63 hbytes hbase
    exact ⟨v', w', h1, h2, h3, h5⟩
end



/-- The cells of bytes. -/
def byts (zs : List Int) : List Value := zs.map (.int .u8)
@[simp] theorem byts_length (zs : List Int) : (byts zs).length = zs.length := by simp [byts]
theorem Row.byt {w : World} {a : Option Addr} {zs : List Int} (h : Row w a (byts zs)) {k : Nat} (hk : k < zs.length) :
    ∃ b off, a = some ⟨b, off, none⟩ ∧ w.cell? ⟨b, off + k, none⟩ = some (.int .u8 zs[k]) := by
  obtain ⟨b, off, ha, hc⟩ := h.at_ (k := k) (by simpa using hk)
  exact ⟨b, off, ha, by rw [hc]; simp [byts]⟩

/-- Block 'g' is a reader of bytes that lie elsewhere; it has read at most N times; all this lies below block B. -/
def Rd (w : World) (B g N : Nat) : Prop :=
  ∃ (A : Option Addr) (cap p : Nat) (zs : List Int), Own w g 100 [.slice A zs.length cap, .int .i64 p] ∧ p ≤ N ∧ Row w A (byts zs) ∧ zs.length ≤ 2000 ∧ (∀ z ∈ zs, 0 ≤ z ∧ z ≤ 255) ∧ g < B ∧ (zs = [] ∨ ∃ b off, A = some ⟨b, off, none⟩ ∧ b < B)

/-- What keeps every block below B but maybe one from B on keeps the reader. -/
theorem Rd.keep {w w' : World} {B g N : Nat} (h : Rd w B g N) (hb : ∀ k, k < B → w'.heap[k]? = w.heap[k]?) : Rd w' B g N := by
  obtain ⟨A, cap, p, zs, hown, hp, hrow, hz, hzs, hg, hA⟩ := h
  refine ⟨A, cap, p, zs, (hb g hg).trans hown, hp, ?_, hz, hzs, hg, hA⟩
  rcases hA with h | ⟨b, off, rfl, hbB⟩
  · subst h; exact .inl rfl
  · rcases hrow with h | ⟨b', off', e', hc⟩
    · exact .inl h
    · injection e' with e'; injection e' with e1 e2; subst e1 e2
      exact .inr ⟨b, off, rfl, fun i hi => (World.cell?_of_block (w := w) (hb b hbB)).trans (hc i hi)⟩
theorem Rd.below {w w' : World} {B g N : Nat} (h : Rd w B g N) (hb : Below B w w') : Rd w' B g N := h.keep hb.block
theorem Rd.lt {w : World} {B g N : Nat} (h : Rd w B g N) : g < w.heap.size := by
  obtain ⟨A, cap, p, zs, hown, _⟩ := h
  exact hown.lt
theorem Rd.ltB {w : World} {B g N : Nat} (h : Rd w B g N) : g < B := by
  obtain ⟨A, cap, p, zs, hown, hp, hrow, hz, hzs, hg, hA⟩ := h
  exact hg
theorem Rd.mono {w : World} {B B' g N N' : Nat} (h : Rd w B g N) (hB : B ≤ B') (hN : N ≤ N') : Rd w B' g N' := by
  obtain ⟨A, cap, p, zs, hown, hp, hrow, hz, hzs, hg, hA⟩ := h
  exact ⟨A, cap, p, zs, hown, by omega, hrow, hz, hzs, by omega, hA.imp id fun ⟨b, off, h1, h2⟩ => ⟨b, off, h1, by omega⟩⟩
theorem Rd.drewN {w : World} {B g N : Nat} (h : Rd w B g N) (n : Nat) : Rd (w.drewN n) B g N := h.keep fun _ _ => rfl
theorem Rd.drew {w : World} {B g N : Nat} (h : Rd w B g N) : Rd w.drew B g N := h.keep fun _ _ => rfl
theorem Rd.grown {w w' : World} {B g N : Nat} {row : Option Nat} (h : Rd w B g N) (hB : B ≤ w.heap.size) (hg : w.grownBy w' row) (hr : ∀ k, row = some k → B ≤ k) : Rd w' B g N :=
  h.keep fun k hk => hg.block k (by omega) (fun e => by have := hr k e.symm; omega)
theorem Rd.alloc {w : World} {B g N : Nat} (h : Rd w B g N) (hB : B ≤ w.heap.size) (o : Obj) : Rd (w.alloc o) B g N :=
  h.below ((Below.refl _ _).alloc hB o)
theorem Rd.setCell {w : World} {B g N : Nat} (h : Rd w B g N) {p : Addr} (hp : B ≤ p.block) (u : Value) : Rd (w.setCell p u) B g N :=
  h.below ((Below.refl _ _).setCell hp u)

/-- A number from 0 to n-1 is drawn; only the reader's block has turned. -/
def PickPost (w : World) (B g N : Nat) (n : Int) (e : Ending) (w' : World) : Prop :=
  ∃ v : Int, e = .returned (.int .i64 v) ∧ 0 ≤ v ∧ (v < n ∨ v = 0) ∧ Rd w' B g (N + 1) ∧ w.grownBy w' (some g)

theorem Rd.row {w : World} {g cap : Nat} {p : Int} {n : Nat} {A : Option Addr} {zs : List Int} (hown : Own w g 100 [.slice A n cap, .int .i64 p]) (hrow : Row w A (byts zs)) (u : Value) : Row (w.setCell ⟨g, 1, none⟩ u) A (byts zs) := by
  rcases hrow with h | ⟨b, off, hA, hc⟩
  · exact .inl h
  · refine .inr ⟨b, off, hA, fun i hi => ?_⟩
    have hcell := hc i hi
    have hne : b ≠ g := by
      rintro rfl
      rw [hown.cell] at hcell
      rcases Nat.lt_or_ge (off + i) 2 with h2 | h2
      · rcases (show off + i = 0 ∨ off + i = 1 by omega) with h3 | h3 <;> rw [h3] at hcell <;> simp [byts] at hcell
      · rw [List.getElem?_eq_none (by simpa using h2)] at hcell; cases hcell
    rw [World.cell?_setCell_far _ _ _ _ (fun e => hne e.symm)]
    exact hcell

theorem Rd.step {w : World} {B g N cap p : Nat} {A : Option Addr} {zs : List Int} (hown : Own w g 100 [.slice A zs.length cap, .int .i64 p]) (hp : p ≤ N) (hrow : Row w A (byts zs)) (hz : zs.length ≤ 2000) (hzs : ∀ z ∈ zs, 0 ≤ z ∧ z ≤ 255) (hg : g < B) (hA : zs = [] ∨ ∃ b off, A = some ⟨b, off, none⟩ ∧ b < B) (m : Nat) :
    Rd ((w.setCell ⟨g, 1, none⟩ (.int .i64 ((p : Int) + 1))).drewN m) B g (N + 1) ∧ w.grownBy ((w.setCell ⟨g, 1, none⟩ (.int .i64 ((p : Int) + 1))).drewN m) (some g) := by
  have ho : Own (w.setCell ⟨g, 1, none⟩ (.int .i64 ((p : Int) + 1))) g 100 [.slice A zs.length cap, .int .i64 ((p + 1 : Nat) : Int)] := by simpa using hown.set_ 1 (.int .i64 ((p : Int) + 1))
  refine ⟨⟨A, cap, p + 1, zs, ho.drewN m, by omega, (Rd.row hown hrow _).drewN m, hz, hzs, hg, hA⟩, ⟨rfl, rfl, rfl, by simp [World.setCell], fun i hi hne => ?_⟩⟩
  exact Below.heap_setCell w ⟨g, 1, none⟩ _ i (fun e => hne (by rw [e]))

theorem xor_nonneg (x y : Int) (hx : 0 ≤ x) (hx1 : x < 4611686018427387904) (hy : 0 ≤ y) (hy1 : y < 4611686018427387904) : 0 ≤ bits .xor .i64 x y := by
  obtain ⟨a, rfl⟩ := Int.eq_ofNat_of_zero_le hx
  obtain ⟨b, rfl⟩ := Int.eq_ofNat_of_zero_le hy
  have h1 : (BitVec.ofInt 64 (a : Int)).toNat = a := by rw [BitVec.ofInt_natCast, BitVec.toNat_ofNat]; exact Nat.mod_eq_of_lt (by omega)
  have h2 : (BitVec.ofInt 64 (b : Int)).toNat = b := by rw [BitVec.ofInt_natCast, BitVec.toNat_ofNat]; exact Nat.mod_eq_of_lt (by omega)
  have hlt : a ^^^ b < 2 ^ 62 := Nat.xor_lt_two_pow (by omega) (by omega)
  show 0 ≤ IntKind.i64.wrap ((BitVec.ofInt 64 (a : Int) ^^^ BitVec.ofInt 64 (b : Int)).toNat : Int)
  rw [BitVec.toNat_xor, h1, h2, IntKind.wrap_i64]
  omega
theorem tmod_nat (a b : Nat) : (a : Int).tmod b = ((a % b : Nat) : Int) := by rw [Int.tmod_eq_emod_of_nonneg (by omega)]; rfl
theorem tdiv_nat (a b : Nat) : (a : Int).tdiv b = ((a / b : Nat) : Int) := by rw [Int.tdiv_eq_ediv_of_nonneg (by omega)]; rfl

set_option maxRecDepth 100000 in
set_option maxHeartbeats 1000000 in
theorem pick_any (B g N : Nat) (n : Int) (w : World) (hrd : Rd w B g N) (hN : N ≤ 100000) (hn : n ≤ 100000) (hn0 : -100000 ≤ n) :
    Calls Tryz.prog 61 #[.pointer (some ⟨g, 0, none⟩), .int .i64 n] w (PickPost w B g N n) := by
  obtain ⟨A, cap, p, zs, hown, hp, hrow, hz, hzs, hgB, hA⟩ := hrd
  have HST := Lib.hid (Rd.step hown hp hrow hz hzs hgB hA)
  clear hA
  have h0 := hown.cell_ (i := 0) (by simp)
  have h1 := hown.cell_ (i := 1) (by simp)
  have f1 := hown.frozen 1
  simp at h0 h1
  have HZS := Lib.hid hzs
  by_cases hn1 : n < 1
  · clear hown hrow hzs
    go_enter Tryz.func61, Tryz.ntmps61
    go_wp2
    go_ret
    exact ⟨0, rfl, by omega, .inr rfl, (HST.out 0).1, (HST.out 0).2⟩
  · by_cases hl : zs.length = 0
    · have hl' : ((zs.length : Int) == 0) = true := by simp [hl]
      have hn1' : 1 ≤ n := by omega
      clear hown hrow hzs hl
      go_enter Tryz.func61, Tryz.ntmps61
      go_wp2
      go_ret
      exact ⟨0, rfl, by omega, .inr rfl, (HST.out 0).1, (HST.out 0).2⟩
    · have hl' : ((zs.length : Int) == 0) = false := by rw [beq_eq_false_iff_ne]; omega
      have HR := Lib.hid (Rd.row hown hrow (.int .i64 ((p : Int) + 1)))
      by_cases hk : p < zs.length
      · obtain ⟨b, off, rfl, hc⟩ := HR.out.byt hk
        have hv := HZS.out _ (List.getElem_mem hk)
        clear hown hrow hzs
        go_enter Tryz.func61, Tryz.ntmps61
        go_wp2
        go_ret
        exact ⟨_, rfl, Int.emod_nonneg _ (by omega), .inl (Int.emod_lt_of_pos _ (by omega)), (HST.out 0).1, (HST.out 0).2⟩
      · have hlp : 0 < zs.length := by omega
        have hm1 := Nat.mod_lt p hlp
        have hm2 := Nat.mod_lt (p * 7 + 3) hlp
        obtain ⟨b, off, rfl, hc1⟩ := HR.out.byt hm1
        obtain ⟨b', off', e', hc2⟩ := HR.out.byt hm2
        simp only [Option.some.injEq, Addr.mk.injEq] at e'
        obtain ⟨rfl, rfl, -⟩ := e'
        have hv1 := HZS.out _ (List.getElem_mem hm1)
        have hv2 := HZS.out _ (List.getElem_mem hm2)
        generalize hg1 : zs[p % zs.length] = z1 at hc1 hv1
        generalize hg2 : zs[(p * 7 + 3) % zs.length] = z2 at hc2 hv2
        clear hg1 hg2
        have hdv : p / zs.length ≤ p := Nat.div_le_self _ _
        obtain ⟨i1, e1⟩ : ∃ i1, p % zs.length = i1 := ⟨_, rfl⟩
        obtain ⟨i2, e2⟩ : ∃ i2, (p * 7 + 3) % zs.length = i2 := ⟨_, rfl⟩
        obtain ⟨q, e3⟩ : ∃ q, p / zs.length = q := ⟨_, rfl⟩
        rw [e1] at hm1 hc1
        rw [e2] at hm2 hc2
        rw [e3] at hdv
        have t1 : (p : Int) % (zs.length : Int) = (i1 : Int) := by rw [← e1]; simp
        have t2 : ((p : Int) * 7 + 3) % (zs.length : Int) = (i2 : Int) := by rw [← e2]; simp
        have t3 : (p : Int) / (zs.length : Int) = (q : Int) := by rw [← e3]; simp
        have b1 : (i1 : Int) < (zs.length : Int) := by omega
        have b2 : (i2 : Int) < (zs.length : Int) := by omega
        have c1 : IntKind.i64.wrap (z1 * 131) = z1 * 131 := IntWalk.i64_in _ (by omega)
        have c2 : IntKind.i64.wrap (z2 * 1117) = z2 * 1117 := IntWalk.i64_in _ (by omega)
        clear e1 e2 e3
        clear hown hrow hzs
        go_enter Tryz.func61, Tryz.ntmps61
        go_wp2
        go_quiet (fail)
        go_wp2
        go_ret
        refine ⟨_, rfl, ?_, ?_, (HST.out _).1, (HST.out _).2⟩
        · exact Int.tmod_nonneg _ (xor_nonneg _ _ (by omega) (by omega) (by omega) (by omega))
        · exact .inl (by rw [Int.tmod_eq_emod_of_nonneg (xor_nonneg _ _ (by omega) (by omega) (by omega) (by omega))]; exact Int.emod_lt_of_pos _ (by omega))



/-- A new reader. -/
def OpenPost (w : World) (e : Ending) (w' : World) : Prop :=
  ∃ g, e = .returned (.pointer (some ⟨g, 0, none⟩)) ∧ w.heap.size ≤ g ∧ Rd w' (g + 1) g 0 ∧ Below w.heap.size w w'

theorem Rd.new {w : World} {A : Option Addr} {cap : Nat} {zs : List Int} (hrow : Row w A (byts zs)) (hz : zs.length ≤ 2000) (hzs : ∀ z ∈ zs, 0 ≤ z ∧ z ≤ 255) :
    Rd (w.alloc (.cells #[.slice A zs.length cap, .int .i64 0] 100)) (w.heap.size + 1) w.heap.size 0 := by
  refine ⟨A, cap, 0, zs, by simpa using Own.new w 100 #[.slice A zs.length cap, .int .i64 0], Nat.le_refl _, hrow.alloc _, hz, hzs, by omega, ?_⟩
  rcases hrow with h | ⟨b, off, hA, hc⟩
  · left; simpa [byts] using h
  · by_cases h0 : zs = []
    · exact .inl h0
    · right
      have hl : 0 < (byts zs).length := by cases zs <;> simp_all
      exact ⟨b, off, hA, by have := cell_lt (hc 0 hl); simp at this; omega⟩

theorem Row.take {w : World} {A : Option Addr} {xs : List Value} (h : Row w A xs) (n : Nat) : Row w A (xs.take n) := by
  rcases h with h | ⟨b, off, hA, hc⟩
  · subst h; simp; exact .inl rfl
  · exact .inr ⟨b, off, hA, fun i hi => by rw [List.getElem_take]; exact hc i (by simp at hi; omega)⟩

set_option maxHeartbeats 400000 in
theorem open_any (A : Option Addr) (cap : Nat) (zs : List Int) (w : World) (hrow : Row w A (byts zs)) (hz : zs.length ≤ 1048576) (hcap : zs.length ≤ cap) (hzs : ∀ z ∈ zs, 0 ≤ z ∧ z ≤ 255) :
    Calls Tryz.prog 59 #[.slice A zs.length cap] w (OpenPost w) := by
  have HR := Lib.hid hrow
  have HZ := Lib.hid hzs
  clear hrow hzs
  by_cases h : 2000 < zs.length
  · have h' : (2000 : Int) < (zs.length : Int) := by omega
    go_enter Tryz.func59, Tryz.ntmps59
    go_wp2
    go_ret
    have hl : (zs.take 2000).length = 2000 := by simp; omega
    refine ⟨w.heap.size, rfl, Nat.le_refl _, ?_, below_box _⟩
    have := Rd.new (w := w) (A := A) (cap := cap) (zs := zs.take 2000) (by have := HR.out.take 2000; simpa [byts, List.map_take] using this) (by omega) (fun z hz => HZ.out z (List.mem_of_mem_take hz))
    rw [hl] at this
    exact this
  · have h' : ¬ (2000 : Int) < (zs.length : Int) := by omega
    go_enter Tryz.func59, Tryz.ntmps59
    go_wp2
    go_ret
    exact ⟨w.heap.size, rfl, Nat.le_refl _, Rd.new HR.out (by omega) HZ.out, below_box _⟩

theorem only_trans {a b c : World} {r : Option Nat} (h : a.grownBy b r) (k : b.grownBy c r) : a.grownBy c r :=
  ⟨k.os.trans h.os, k.tape.trans h.tape, k.output.trans h.output, Nat.le_trans h.size k.size, fun i hi hne => (k.block i (Nat.lt_of_lt_of_le hi h.size) hne).trans (h.block i hi hne)⟩
theorem only_of_below {a w : World} {B : Nat} (h : Below B a w) (hB : a.heap.size ≤ B) (row : Option Nat) : a.grownBy w row := ⟨h.os, h.tape, h.output, h.size, fun i hi _ => h.block i (by omega)⟩
theorem only_alloc {a w : World} {row : Option Nat} (h : a.grownBy w row) (o : Obj) : a.grownBy (w.alloc o) row :=
  ⟨h.os, h.tape, h.output, Nat.le_trans h.size (by simp), fun i hi hne => (Below.heap_alloc w o i (Nat.lt_of_lt_of_le hi h.size)).trans (h.block i hi hne)⟩
/-- A step that touches one block that is new touches nothing else that was there. -/
theorem only_new {a w w' : World} {row row' : Option Nat} (h : a.grownBy w row) (k : w.grownBy w' row') (hr : ∀ b, row' = some b → a.heap.size ≤ b) : a.grownBy w' row :=
  ⟨k.os.trans h.os, k.tape.trans h.tape, k.output.trans h.output, Nat.le_trans h.size k.size, fun i hi hne => (k.block i (Nat.lt_of_lt_of_le hi h.size) (fun e => by have := hr i e.symm; omega)).trans (h.block i hi hne)⟩
/-- What a row that is owned from block 'base' on is when only an elder block has turned. -/
theorem own_old {w w' : World} {base g : Nat} {e : TypeId} {size : Nat} {v : Value} {n : Nat} {xs : List Value} (h : w.ownsRow base e size v n xs) (hg : w.grownBy w' (some g)) (hb : g < base) : w'.ownsRow base e size v n xs :=
  h.kept hg (by
    rcases hv : v.ownBlock with _ | k
    · exact .inl rfl
    · right; intro e; injection e with e; have := (h.lt k hv).1; omega)

theorem own_touch {w w' : World} {b g : Nat} {t : TypeId} {xs : List Value} (h : Own w b t xs) (hg : w.grownBy w' (some g)) (hne : b ≠ g) : Own w' b t xs :=
  (hg.block b h.lt (fun e => hne (by injection e))).trans h


def ManyPost (s : ByteArray) (n : Int) (w : World) (e : Ending) (w' : World) : Prop := ∃ t : ByteArray, e = .returned (.string t) ∧ t.size = s.size * n.toNat ∧ w = w'

theorem many_step (o s n : Nat) (h : 0 < n) : o + s * n = (if n % 2 = 1 then o + s else o) + (s + s) * (n / 2) := by
  have h1 := Nat.div_add_mod n 2
  split
  · rename_i hm
    have : n = 2 * (n / 2) + 1 := by omega
    conv => lhs; rw [this]
    rw [Nat.mul_add, Nat.add_mul, Nat.mul_left_comm]
    omega
  · have : n = 2 * (n / 2) := by omega
    conv => lhs; rw [this]
    rw [Nat.mul_left_comm, Nat.add_mul]
    omega

set_option maxHeartbeats 400000 in
theorem many_any (s : ByteArray) (n : Int) (w : World) (hn0 : 0 ≤ n) (hn : n ≤ 1000) (hs : s.size ≤ 100) :
    Calls Tryz.prog 78 #[.string s, .int .i64 n] w (ManyPost s n w) := by
  go_enter Tryz.func78, Tryz.ntmps78
  go_wp2
  go_loop [0, 1, 5] (fun a b c => ∃ (x t : ByteArray) (m : Nat), a = .string x ∧ b = .int .i64 m ∧ c = .string t ∧ t.size ≤ 100000 ∧ x.size ≤ 200000 ∧ m ≤ 1000 ∧ Hid (t.size + x.size * m = s.size * n.toNat)) (fun _ b _ => (intOf b).toNat)
  case atStart => exact ⟨s, ⟨#[]⟩, n.toNat, rfl, by go_num, rfl, by show 0 ≤ _; omega, by omega, by omega, by unfold Hid; show 0 + _ = _; omega⟩
  case round =>
    obtain ⟨x, t, m, rfl, rfl, rfl, h1, h2, h3, h4⟩ := hrel
    have htot : s.size * n.toNat ≤ 100000 := Nat.le_trans (Nat.mul_le_mul hs (show n.toNat ≤ 1000 by omega)) (by omega)
    by_cases hm : 0 < m
    · have hm' : (0 : Int) < (m : Int) := by omega
      have hst := many_step t.size x.size m hm
      rw [h4.out] at hst
      have hx1 : x.size * 1 ≤ x.size * m := Nat.mul_le_mul_left _ hm
      have hx2 : x.size ≤ 100000 := by have := h4.out; omega
      by_cases hodd : m % 2 = 1
      · have ho : ((m : Int) % 2 == 1) = true := by rw [beq_iff_eq]; omega
        rw [if_pos hodd] at hst
        have HST := Lib.hid hst
        clear hst hodd
        go_wp2
        go_round
        case rel => exact ⟨x ++ x, t ++ x, m / 2, rfl, by go_num, rfl, by rw [ByteArray.size_append]; have := h4.out; omega, by rw [ByteArray.size_append]; omega, by omega, by unfold Hid; rw [ByteArray.size_append, ByteArray.size_append]; exact HST.out.symm⟩
        case measure => simp [intOf]; omega
      · have ho : ((m : Int) % 2 == 1) = false := by rw [beq_eq_false_iff_ne]; omega
        rw [if_neg hodd] at hst
        have HST := Lib.hid hst
        clear hst hodd
        go_wp2
        go_round
        case rel => exact ⟨x ++ x, t, m / 2, rfl, by go_num, rfl, h1, by rw [ByteArray.size_append]; omega, by omega, by unfold Hid; rw [ByteArray.size_append]; exact HST.out.symm⟩
        case measure => simp [intOf]; omega
    · have hm' : ¬ (0 : Int) < (m : Int) := by omega
      go_wp2
      go_ret
      obtain rfl : m = 0 := by omega
      exact ⟨t, rfl, by simpa using h4.out, rfl⟩

/-- One of some texts is drawn. -/
def OfPost (w : World) (B g N : Nat) (ss : List ByteArray) (e : Ending) (w' : World) : Prop := ∃ s : ByteArray, e = .returned (.string s) ∧ s ∈ ss ∧ Rd w' B g (N + 1) ∧ w.grownBy w' (some g)
set_option maxRecDepth 100000 in
set_option maxHeartbeats 1000000 in
theorem of_any (B g N b off c : Nat) (ss : List ByteArray) (w : World) (hrd : Rd w B g N) (hN : N ≤ 60000) (h0 : 0 < ss.length) (h1 : ss.length ≤ 100) (hne : b ≠ g) (hc : ∀ i (h : i < ss.length), w.cell? ⟨b, off + i, none⟩ = some (.string ss[i])) :
    Calls Tryz.prog 80 #[.pointer (some ⟨g, 0, none⟩), .slice (some ⟨b, off, none⟩) ss.length c] w (OfPost w B g N ss) := by
  have HC := Lib.hid hc
  clear hc
  go_enter Tryz.func80, Tryz.ntmps80
  go_wp2_with fail
  refine (pick_any B g N ss.length w hrd (by omega) (by omega) (by omega)).mono ?_
  rintro e w1 ⟨v, rfl, hv0, hv1, hrd1, hg1⟩
  have hvn : v.toNat < ss.length := by rcases hv1 with h | h <;> omega
  have hvi : v < (ss.length : Int) := by omega
  have hcell := HC.out v.toNat hvn
  have hc1 : w1.cell? ⟨b, off + v.toNat, none⟩ = some (.string ss[v.toNat]) := by
    rw [World.cell?_of_block (w := w) (hg1.block b (cell_lt hcell) (fun e => hne (by injection e)))]; exact hcell
  have HM := Lib.hid (List.getElem_mem hvn)
  clear hcell hv1
  generalize ss[v.toNat] = s at *
  go_wp2
  go_ret
  exact ⟨s, rfl, HM.out, hrd1, hg1⟩

/-- Whatever slice is appended, at the operation. -/
theorem wpList_append_any {P : Program} (w : World) {ops : Array Oper} {rest : List Oper} {o : Oper} {a : Act} {Q : Exit → Act → World → Prop} (hgd : o.guard = none) (s x : Operand) (t : TypeId)
    (ho : o.op = .call { callee := .builtin .append, args := #[s, x], argTypes := #[t, t] })
    (base : Nat) (e : TypeId) (i : TypeInfo) (z : Value) (size bytes : Nat) (ht : P.underlying t = some (.slice e)) (hi : P.info? e = some i) (hz : i.zero = some z)
    (hsize : i.size = size) (hby : i.bytes = bytes) (hzs : z.cells.size = size) (hsz : 0 < size)
    (v : Value) (n : Nat) (xs : List Value) (hs : a.eval s = v) (hown : w.ownsRow base e size v n xs)
    (A : Option Addr) (m c : Nat) (news : List Value) (hx : a.eval x = .slice A m c) (hA : A = none → m = 0) (hl : news.length = m * size) (hnews : ∀ ad, A = some ad → ∀ j u, news[j]? = some u → w.cell? (ad.add j) = some u) (h1 : ∀ u ∈ news, u.oneCell' = true)
    (h63 : n + m ≤ maxLen) (hbytes : (n + m) * bytes ≤ 140737488355328) (hbase : base ≤ w.heap.size)
    (h : ∀ v' w', w'.ownsRow base e size v' (n + m) (xs ++ news) → w.grownBy w' v.ownBlock → (v'.ownBlock = v.ownBlock ∨ v'.ownBlock = some w.heap.size) → wpList P ops Q rest (a.put o.dst v') w') :
    wpList P ops Q (o :: rest) a w := by
  refine wpList_plain hgd fun K hK => ?_
  obtain ⟨v', w', hr, h2, h3, h5⟩ := run_append_any (P := P) w base t o.type e i z size bytes ht hi hz hsize hby hzs hsz v n xs hown A m c news hA hl hnews h1 h63 hbytes hbase
  unfold Oper.wp execOp
  simp only [ho, resolve, invoke, builtin, Sem.run_bind, Sem.run_pure, Result.andThen_ok, List.map_toArray, List.map_cons, List.map_nil, hs, hx, hr]
  exact hK _ _ (h v' w' h2 h3 h5)

/-- What a new row of cells holds. -/
theorem new_cells (w : World) (cs : List Value) (t : TypeId) : ∀ j u, cs[j]? = some u → (w.alloc (.cells cs.toArray t)).cell? ((⟨w.heap.size, 0, none⟩ : Addr).add j) = some u := by
  intro j u hu
  have e1 : (Addr.add ⟨w.heap.size, 0, none⟩ j) = ⟨w.heap.size, j, none⟩ := by unfold Addr.add; split <;> simp_all
  rw [e1, (Own.new w t cs.toArray).cell]
  simpa using hu


theorem step_own_v {P : Program} (w : World) {ops : Array Oper} {o : Oper} {a : Act} {K : Act → World → Prop} {Q : Exit → Act → World → Prop} {E : Prop} (hgd : o.guard = none) (s x : Operand) (t : TypeId)
    (ho : o.op = .call { callee := .builtin .append, args := #[s, x], argTypes := #[t, t] })
    (base : Nat) (e : TypeId) (i : TypeInfo) (z : Value) (size bytes : Nat) (ht : P.underlying t = some (.slice e)) (hi : P.info? e = some i) (hz : i.zero = some z)
    (hsize : i.size = size) (hby : i.bytes = bytes) (hzs : z.cells.size = size) (hsz : 0 < size)
    (v : Value) (n : Nat) (xs : List Value) (hs : a.eval s = v) (hown : w.ownsRow base e size v n xs)
    (ad : Addr) (m c : Nat) (news : List Value) (hx : a.eval x = .slice (some ad) m c) (hl : news.length = m * size) (hnews : ∀ j u, news[j]? = some u → w.cell? (ad.add j) = some u) (h1 : ∀ u ∈ news, u.oneCell' = true)
    (h63 : n + m ≤ maxLen) (hbytes : (n + m) * bytes ≤ 140737488355328) (hbase : base ≤ w.heap.size)
    (h : ∀ v' w', w'.ownsRow base e size v' (n + m) (xs ++ news) → w.grownBy w' v.ownBlock → (v'.ownBlock = v.ownBlock ∨ v'.ownBlock = some w.heap.size) → K (a.put o.dst v') w') :
    if Region.wanted o (yielded ops a.tmps) = true then Oper.wp P o a w K Q else E := by
  have hw : Region.wanted o (yielded ops a.tmps) = true := by simp [Region.wanted, hgd]
  rw [if_pos hw]
  obtain ⟨v', w', hr, h2, h3, h4, h5⟩ := run_append_own_at (P := P) w base t o.type e i z size bytes ht hi hz hsize hby hzs hsz _ n xs hown ad m c news hl hnews h1 h63 hbytes hbase
  unfold Oper.wp execOp
  simp only [ho, resolve, invoke, builtin, Sem.run_bind, Sem.run_pure, Result.andThen_ok, List.map_toArray, List.map_cons, List.map_nil, hs, hx, hr]
  exact h v' w' h2 h3 h5

theorem grown_alloc (w : World) (o : Obj) : w.grownBy (w.alloc o) none := only_alloc (only_of_below (Below.refl _ _) (Nat.le_refl _) _) o
theorem cells_new (w : World) (cs : List Value) (t : TypeId) : ∀ j u, cs[j]? = some u → (w.alloc (.cells cs.toArray t)).cell? ((⟨w.heap.size, 0, none⟩ : Addr).add j) = some u := new_cells w cs t

end Go.Proofs.YtkhcappjhefkjaaGreatDoor

