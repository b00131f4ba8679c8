/- A class is drawn: l71Class. -/
import Derived.Test.YtkgiklmdpdakbaaJ8
namespace Go.Proofs.Ytkgiklmdpdakbaa
open Go.RowKit
set_option linter.unusedVariables false

theorem infoY3 : (Try.prog.info? 3).map (fun i => (i.zero, i.size, i.bytes)) = some (some (.int .i64 0), 1, 8) := by kernel_rfl

/-- The cells of a part that lies in a block. -/
theorem c7_cells {w : World} {P : Nat} {k : Int} {t : ByteArray} {A C K : Option Addr} {la ca lb cb lk kc : Nat} {mn mx : Int} (h : Own w P 88 (c7 k t A la ca C lb cb K lk kc mn mx)) :
    w.cell? ⟨P, 0, none⟩ = some (.int .i64 k) ∧ w.cell? ⟨P, 1, none⟩ = some (.string t) ∧ w.cell? ⟨P, 2, none⟩ = some (.slice A la ca) ∧ w.cell? ⟨P, 3, none⟩ = some (.slice C lb cb) ∧ w.cell? ⟨P, 4, none⟩ = some (.slice K lk kc) ∧
      w.cell? ⟨P, 5, none⟩ = some (.int .i64 mn) ∧ w.cell? ⟨P, 6, none⟩ = some (.int .i64 mx) := by
  refine ⟨?_, ?_, ?_, ?_, ?_, ?_, ?_⟩ <;> rw [h.cell] <;> rfl
theorem own_touch {w w' : World} {b g : Nat} {t : TypeId} {xs : List Value} (h : Own w b t xs) (hg : w.grownBy w' (some g)) (hne : b ≠ g) : Own w' b t xs :=
  (hg.block b h.lt (fun e => hne (by injection e))).trans h
theorem ints_one (zs : List Int) (x : Int) : ints zs ++ [.int .i64 x] = ints (zs ++ [x]) := by simp [ints]

/-- A class under way: its two rows; the result's block lies ahead of it. -/
structure CL (w0 : World) (B g N : Nat) (lo hi : List Int) (A C : Option Addr) (ca cc : Nat) (w : World) : Prop where
  p : Own w (w0.heap.size + 1) 88 (c7 2 ⟨#[]⟩ A lo.length ca C hi.length cc none 0 0 0 0)
  r : Own w w0.heap.size 88 (c7 0 ⟨#[]⟩ none 0 0 none 0 0 none 0 0 0 0)
  a : w.ownsRow (w0.heap.size + 2) 3 1 (.slice A lo.length ca) lo.length (ints lo)
  b : w.ownsRow (w0.heap.size + 2) 3 1 (.slice C hi.length cc) hi.length (ints hi)
  ab : ∀ k, (Value.slice A lo.length ca).ownBlock = some k → (Value.slice C hi.length cc).ownBlock ≠ some k
  rd : Rd w B g N
  fr : w0.grownBy w (some g)
  hB : B ≤ w0.heap.size

section
variable {w0 w w' : World} {B g N N' : Nat} {lo hi lo' hi' : List Int} {A C A' C' : Option Addr} {ca cc ca' cc' : Nat}
theorem CL.size (h : CL w0 B g N lo hi A C ca cc w) : w0.heap.size + 2 ≤ w.heap.size := by have := h.p.lt; omega
theorem CL.g_lt (h : CL w0 B g N lo hi A C ca cc w) : g < w0.heap.size := by have := h.rd.ltB; have := h.hB; omega
theorem CL.touch (h : CL w0 B g N lo hi A C ca cc w) (hg : w.grownBy w' (some g)) (hr : Rd w' B g N') : CL w0 B g N' lo hi A C ca cc w' :=
  ⟨own_touch h.p hg (by have := h.g_lt; omega), own_touch h.r hg (by have := h.g_lt; omega), own_old h.a hg (by have := h.g_lt; omega), own_old h.b hg (by have := h.g_lt; omega), h.ab, hr, only_trans h.fr hg, h.hB⟩
theorem CL.alloc (h : CL w0 B g N lo hi A C ca cc w) (o : Obj) : CL w0 B g N lo hi A C ca cc (w.alloc o) :=
  ⟨h.p.alloc o, h.r.alloc o, h.a.alloc o, h.b.alloc o, h.ab, h.rd.alloc (by have := h.size; have := h.hB; omega) o, only_alloc h.fr o, h.hB⟩
theorem CL.mono (h : CL w0 B g N lo hi A C ca cc w) (hN : N ≤ N') : CL w0 B g N' lo hi A C ca cc w := ⟨h.p, h.r, h.a, h.b, h.ab, h.rd.mono (Nat.le_refl _) hN, h.fr, h.hB⟩
theorem CL.start (hr : Rd w B g N) (hB : B ≤ w.heap.size) :
    CL w B g N [] [] none none 0 0 ((w.alloc (.cells #[.int .i64 0, .string ⟨#[]⟩, .slice none 0 0, .slice none 0 0, .slice none 0 0, .int .i64 0, .int .i64 0] 88)).alloc (.cells #[.int .i64 2, .string ⟨#[]⟩, .slice none 0 0, .slice none 0 0, .slice none 0 0, .int .i64 0, .int .i64 0] 88)) :=
  ⟨by simpa [c7] using Own.new (w.alloc (.cells #[.int .i64 0, .string ⟨#[]⟩, .slice none 0 0, .slice none 0 0, .slice none 0 0, .int .i64 0, .int .i64 0] 88)) 88 #[.int .i64 2, .string ⟨#[]⟩, .slice none 0 0, .slice none 0 0, .slice none 0 0, .int .i64 0, .int .i64 0],
    by simpa [c7] using (Own.new w 88 #[.int .i64 0, .string ⟨#[]⟩, .slice none 0 0, .slice none 0 0, .slice none 0 0, .int .i64 0, .int .i64 0]).alloc _, own_ints_nil _ _, own_ints_nil _ _, fun k h => (none_block h).elim,
    (hr.alloc hB _).alloc (by simp; omega) _, only_alloc (only_alloc (only_of_below (Below.refl _ _) (Nat.le_refl _) _) _) _, hB⟩
/-- What stays where the row of one of its fields has grown. -/
theorem CL.kept (h : CL w0 B g N lo hi A C ca cc w) {row : Option Nat} (hg : w.grownBy w' row) (hr : ∀ k, row = some k → w0.heap.size + 2 ≤ k) :
    Own w' (w0.heap.size + 1) 88 (c7 2 ⟨#[]⟩ A lo.length ca C hi.length cc none 0 0 0 0) ∧ Own w' w0.heap.size 88 (c7 0 ⟨#[]⟩ none 0 0 none 0 0 none 0 0 0 0) ∧ Rd w' B g N ∧ w0.grownBy w' (some g) := by
  have hs := h.size
  have hb := h.hB
  refine ⟨(hg.block _ h.p.lt (fun e => by have := hr _ e.symm; omega)).trans h.p, (hg.block _ h.r.lt (fun e => by have := hr _ e.symm; omega)).trans h.r, h.rd.grown (by omega) hg (fun k hk => by have := hr k hk; omega), only_new h.fr hg (fun k hk => by have := hr k hk; omega)⟩
theorem CL.store (h : Own w (w0.heap.size + 1) 88 (c7 2 ⟨#[]⟩ A lo.length ca C hi.length cc none 0 0 0 0)) (hr : Own w w0.heap.size 88 (c7 0 ⟨#[]⟩ none 0 0 none 0 0 none 0 0 0 0)) (hrd : Rd w B g N) (hf : w0.grownBy w (some g)) (hB : B ≤ w0.heap.size)
    (ha : w.ownsRow (w0.heap.size + 2) 3 1 (.slice A' lo'.length ca') lo'.length (ints lo')) (hb : w.ownsRow (w0.heap.size + 2) 3 1 (.slice C' hi'.length cc') hi'.length (ints hi'))
    (hab : ∀ k, (Value.slice A' lo'.length ca').ownBlock = some k → (Value.slice C' hi'.length cc').ownBlock ≠ some k) (i : Nat) (u : Value)
    (hc : (c7 2 ⟨#[]⟩ A lo.length ca C hi.length cc none 0 0 0 0).set i u = c7 2 ⟨#[]⟩ A' lo'.length ca' C' hi'.length cc' none 0 0 0 0) :
    CL w0 B g N lo' hi' A' C' ca' cc' (w.setCell ⟨w0.heap.size + 1, i, none⟩ u) := by
  have hp := h.set_ i u
  rw [hc] at hp
  exact ⟨hp, hr.far (by simp) u, own_far ha (fun b hb' => by have := (ha.lt b hb').1; simp only; omega) u, own_far hb (fun b hb' => by have := (hb.lt b hb').1; simp only; omega) u, hab, hrd.setCell (by simp only; omega) u, 
    ⟨hf.os, hf.tape, hf.output, by simpa [World.setCell] using hf.size, fun i hi hne => (Below.heap_setCell _ _ _ i (by simp only; omega)).trans (hf.block i hi hne)⟩, hB⟩
/-- The lower ends have grown, and are stored. -/
theorem CL.setLow {v' : Value} {x : Int} (h : CL w0 B g N lo hi A C ca cc w) (ho : w'.ownsRow (w0.heap.size + 2) 3 1 v' (lo.length + 1) (ints lo ++ [.int .i64 x])) (hg : w.grownBy w' (Value.slice A lo.length ca).ownBlock) (hv : v'.ownBlock = (Value.slice A lo.length ca).ownBlock ∨ v'.ownBlock = some w.heap.size) :
    ∃ A' ca', v' = .slice A' (lo ++ [x]).length ca' ∧ CL w0 B g N (lo ++ [x]) hi A' C ca' cc (w'.setCell ⟨w0.heap.size + 1, 2, none⟩ (.slice A' (lo ++ [x]).length ca')) := by
  obtain ⟨h1, h2, h3, h4⟩ := h.kept hg (fun k hk => (h.a.lt k hk).1)
  rw [ints_one] at ho
  obtain ⟨A', ca', rfl⟩ := own_form ho
  have e : (lo ++ [x]).length = lo.length + 1 := by simp
  refine ⟨A', ca', by rw [e], ?_⟩
  refine CL.store h1 h2 h3 h4 h.hB (by rw [e]; exact ho) (own_same h.b fun b hb => hg.block b (h.b.lt b hb).2 fun e => h.ab b e.symm hb) (fun k hk hk' => ?_) 2 _ (by rw [e]; rfl)
  rw [e] at hk
  rcases hv with q | q
  · exact h.ab k (q ▸ hk) hk'
  · rw [q] at hk; injection hk with hk; have := (h.b.lt k hk').2; omega
theorem CL.setHigh {v' : Value} {x : Int} (h : CL w0 B g N lo hi A C ca cc w) (ho : w'.ownsRow (w0.heap.size + 2) 3 1 v' (hi.length + 1) (ints hi ++ [.int .i64 x])) (hg : w.grownBy w' (Value.slice C hi.length cc).ownBlock) (hv : v'.ownBlock = (Value.slice C hi.length cc).ownBlock ∨ v'.ownBlock = some w.heap.size) :
    ∃ C' cc', v' = .slice C' (hi ++ [x]).length cc' ∧ CL w0 B g N lo (hi ++ [x]) A C' ca cc' (w'.setCell ⟨w0.heap.size + 1, 3, none⟩ (.slice C' (hi ++ [x]).length cc')) := by
  obtain ⟨h1, h2, h3, h4⟩ := h.kept hg (fun k hk => (h.b.lt k hk).1)
  rw [ints_one] at ho
  obtain ⟨C', cc', rfl⟩ := own_form ho
  have e : (hi ++ [x]).length = hi.length + 1 := by simp
  refine ⟨C', cc', by rw [e], ?_⟩
  refine CL.store h1 h2 h3 h4 h.hB (own_same h.a fun b hb => hg.block b (h.a.lt b hb).2 fun e => h.ab b hb e.symm) (by rw [e]; exact ho) (fun k hk hk' => ?_) 3 _ (by rw [e]; rfl)
  rw [e] at hk'
  rcases hv with q | q
  · exact h.ab k hk (q ▸ hk')
  · rw [q] at hk'; injection hk' with hk'; have := (h.a.lt k hk).2; omega
theorem CL.newLow (h : CL w0 B g N lo hi A C ca cc w) (x : Int) :
    CL w0 B g N [x] hi (some ⟨w.heap.size, 0, none⟩) C 1 cc ((w.alloc (.cells #[.int .i64 x] 3)).setCell ⟨w0.heap.size + 1, 2, none⟩ (.slice (some ⟨w.heap.size, 0, none⟩) 1 1)) := by
  have h' := h.alloc (.cells #[.int .i64 x] 3)
  have hs := h.size
  refine CL.store h'.p h'.r h'.rd h'.fr h.hB (by simpa [ints] using own_new w 3 1 (w0.heap.size + 2) 1 [.int .i64 x] hs rfl (by simp [maxLen])) h'.b (fun k hk hk' => ?_) 2 _ rfl
  injection hk with hk
  have := (h.b.lt k hk').2
  simp only at hk
  omega
theorem CL.newHigh (h : CL w0 B g N lo hi A C ca cc w) (x : Int) :
    CL w0 B g N lo [x] A (some ⟨w.heap.size, 0, none⟩) ca 1 ((w.alloc (.cells #[.int .i64 x] 3)).setCell ⟨w0.heap.size + 1, 3, none⟩ (.slice (some ⟨w.heap.size, 0, none⟩) 1 1)) := by
  have h' := h.alloc (.cells #[.int .i64 x] 3)
  have hs := h.size
  refine CL.store h'.p h'.r h'.rd h'.fr h.hB h'.a (by simpa [ints] using own_new w 3 1 (w0.heap.size + 2) 1 [.int .i64 x] hs rfl (by simp [maxLen])) (fun k hk hk' => ?_) 3 _ rfl
  injection hk' with hk'
  have := (h.a.lt k hk).2
  simp only at hk'
  omega
theorem seven_cell {w : World} {R : Nat} {k k' : Int} {t t' : ByteArray} {A C K A' C' K' : Option Addr} {la ca lb cb lk kc la' ca' lb' cb' lk' kc' : Nat} {mn mx mn' mx' : Int} (h : Own w R 88 (c7 k t A la ca C lb cb K lk kc mn mx)) :
    Own (((((((w.setCell ⟨R, 0, none⟩ (.int .i64 k')).setCell ⟨R, 1, none⟩ (.string t')).setCell ⟨R, 2, none⟩ (.slice A' la' ca')).setCell ⟨R, 3, none⟩ (.slice C' lb' cb')).setCell ⟨R, 4, none⟩ (.slice K' lk' kc')).setCell ⟨R, 5, none⟩ (.int .i64 mn')).setCell ⟨R, 6, none⟩ (.int .i64 mx')) R 88
      (c7 k' t' A' la' ca' C' lb' cb' K' lk' kc' mn' mx') :=
  ((((((h.set_ 0 _).set_ 1 _).set_ 2 _).set_ 3 _).set_ 4 _).set_ 5 _).set_ 6 _
theorem seven_below {B R : Nat} {w0 w : World} (h : Below B w0 w) (hR : B ≤ R) (a b c d e f k : Value) :
    Below B w0 (((((((w.setCell ⟨R, 0, none⟩ a).setCell ⟨R, 1, none⟩ b).setCell ⟨R, 2, none⟩ c).setCell ⟨R, 3, none⟩ d).setCell ⟨R, 4, none⟩ e).setCell ⟨R, 5, none⟩ f).setCell ⟨R, 6, none⟩ k) :=
  ((((((h.setCell hR a).setCell hR b).setCell hR c).setCell hR d).setCell hR e).setCell hR f).setCell hR k
theorem seven_grown {R : Nat} {w0 w : World} {row : Option Nat} (h : w0.grownBy w row) (hR : w0.heap.size ≤ R) (a b c d e f k : Value) :
    w0.grownBy (((((((w.setCell ⟨R, 0, none⟩ a).setCell ⟨R, 1, none⟩ b).setCell ⟨R, 2, none⟩ c).setCell ⟨R, 3, none⟩ d).setCell ⟨R, 4, none⟩ e).setCell ⟨R, 5, none⟩ f).setCell ⟨R, 6, none⟩ k) row := by
  have hb := seven_below (B := w0.heap.size) (R := R) (Below.refl w0.heap.size w) hR a b c d e f k
  exact ⟨hb.os.trans h.os, hb.tape.trans h.tape, hb.output.trans h.output, Nat.le_trans h.size hb.size, fun i hi hne => (hb.block i hi).trans (h.block i hi hne)⟩
theorem seven_other {R : Nat} {w : World} (a b c d e f k : Value) (i : Nat) (hi : i ≠ R) :
    (((((((w.setCell ⟨R, 0, none⟩ a).setCell ⟨R, 1, none⟩ b).setCell ⟨R, 2, none⟩ c).setCell ⟨R, 3, none⟩ d).setCell ⟨R, 4, none⟩ e).setCell ⟨R, 5, none⟩ f).setCell ⟨R, 6, none⟩ k).heap[i]? = w.heap[i]? := by
  simp only [Below.heap_setCell _ ⟨R, _, none⟩ _ i hi]
end

/-- A class is drawn. -/
def ClassPost (w : World) (B g N : Nat) (e : Ending) (w' : World) : Prop :=
  ∃ (lo hi : List Int) (A C : Option Addr) (ca cc : Nat), e = .returned (.agg (c7 2 ⟨#[]⟩ A lo.length ca C hi.length cc none 0 0 0 0).toArray) ∧ lo.length ≤ 3 ∧ hi.length ≤ 3 ∧ TopP w' w.heap.size lo hi [] A C none ca cc 0 ∧ Rd w' B g (N + 20) ∧ w.grownBy w' (some g)

theorem CL.done {w0 w : World} {B g M N : Nat} {lo hi : List Int} {A C : Option Addr} {ca cc : Nat} (h : CL w0 B g M lo hi A C ca cc w) (hM : M ≤ N + 20) (hl : lo.length ≤ 3) (hh : hi.length ≤ 3) :
    ClassPost w0 B g N (.returned (.agg (c7 2 ⟨#[]⟩ A lo.length ca C hi.length cc none 0 0 0 0).toArray))
      (((((((w.setCell ⟨w0.heap.size, 0, none⟩ (.int .i64 2)).setCell ⟨w0.heap.size, 1, none⟩ (.string ⟨#[]⟩)).setCell ⟨w0.heap.size, 2, none⟩ (.slice A lo.length ca)).setCell ⟨w0.heap.size, 3, none⟩ (.slice C hi.length cc)).setCell ⟨w0.heap.size, 4, none⟩ (.slice none 0 0)).setCell ⟨w0.heap.size, 5, none⟩ (.int .i64 0)).setCell ⟨w0.heap.size, 6, none⟩ (.int .i64 0)) := by
  have hs := h.size
  have hT2 : TopP w (w0.heap.size + 2) lo hi [] A C none ca cc 0 := ⟨h.a, h.b, h.ab, KR.nil _ _ _⟩
  refine ⟨lo, hi, A, C, ca, cc, rfl, hl, hh, (hT2.keep fun b hb _ => seven_other _ _ _ _ _ _ _ b (by omega)).low (by omega), ?_, ?_⟩
  · exact (h.rd.keep fun b hb => seven_other _ _ _ _ _ _ _ b (by have := h.hB; omega)).mono (Nat.le_refl _) hM
  · exact seven_grown h.fr (Nat.le_refl _) _ _ _ _ _ _ _

set_option maxRecDepth 100000 in
set_option maxHeartbeats 2000000 in
theorem class_any (B g N : Nat) (w : World) (hrd : Rd w B g N) (hB : B ≤ w.heap.size) (hN : N ≤ 40000) :
    Calls Try.prog 72 #[.pointer (some ⟨g, 0, none⟩)] w (ClassPost w B g N) := by
  obtain ⟨i0, hi0, hz0, hz1, hz2⟩ := info_parts infoY3
  have HI := Lib.hid (And.intro hi0 (And.intro hz0 (And.intro hz1 hz2)))
  clear hi0 hz0 hz1 hz2
  have HL := CL.start hrd hB
  clear hrd
  go_enter Try.func72, Try.ntmps72
  go_wp2_with fail
  refine (pick_any B g N 40 _ HL.rd (by omega) (by omega) (by omega)).mono ?_
  rintro e w1 ⟨v, rfl, hv0, hv1, hrd1, hg1⟩
  replace HL := HL.touch hg1 hrd1
  clear hrd1 hg1
  have hv2 : v ≤ 39 := by rcases hv1 with h | h <;> omega
  go_wp2_with fail
  refine (pick_any B g _ 3 _ HL.rd (by omega) (by omega) (by omega)).mono ?_
  rintro e w2 ⟨u, rfl, hu0, hu1, hrd1, hg1⟩
  replace HL := HL.touch hg1 hrd1
  clear hrd1 hg1
  have hu2 : u ≤ 2 := by rcases hu1 with h | h <;> omega
  go_wp2
  go_loopw [4, 5] (fun q c wr => ∃ (lo hi : List Int) (A C : Option Addr) (ca cc j : Nat) (z : Int), q = .int .i64 z ∧ c = .int .i64 j ∧ 0 ≤ z ∧ z + 20 * j ≤ 200 ∧ lo.length + j ≤ 3 ∧ hi.length + j ≤ 3 ∧ CL w B g (N + 2 + 2 * (3 - j)) lo hi A C ca cc wr) (fun _ c _ => (intOf c).toNat)
  case atStart => exact ⟨[], [], none, none, 0, 0, (1 + u).toNat, v + 70, rfl, by go_num, by omega, by omega, by simp; omega, by simp; omega, HL.mono (by omega)⟩
  case round =>
    clear HL
    obtain ⟨lo, hi, A, C, ca, cc, j, z, rfl, rfl, hz0, hz1, hl, hh, HL⟩ := hrel
    have hsz := HL.size
    by_cases hj1 : 0 < j
    · have hj2 : (0 : Int) < (j : Int) := by omega
      go_wp2_with fail
      refine (pick_any B g _ 9 _ HL.rd (by omega) (by omega) (by omega)).mono ?_
      rintro e w3 ⟨x, rfl, hx0, hx1, hrd3, hg3⟩
      replace HL := HL.touch hg3 hrd3
      clear hrd3 hg3
      have hx2 : x ≤ 8 := by rcases hx1 with h | h <;> omega
      go_wp2_with fail
      refine (pick_any B g _ 4 _ HL.rd (by omega) (by omega) (by omega)).mono ?_
      rintro e w4 ⟨y, rfl, hy0, hy1, hrd4, hg4⟩
      replace HL := HL.touch hg4 hrd4
      clear hrd4 hg4
      have hy2 : y ≤ 3 := by rcases hy1 with h | h <;> omega
      have c2 := (c7_cells HL.p).2.2.1
      have hsz4 := HL.size
      go_wp2_with (at_builtin; refine wpList_append_own_at _ rfl _ _ 41 rfl (w.heap.size + 2) 3 i0 (.int .i64 0) 1 8 Try.underlying41 HI.out.1 HI.out.2.1 HI.out.2.2.1 HI.out.2.2.2 rfl (by decide) _ _ _ rfl (HL.alloc _).a ⟨w4.heap.size, 0, none⟩ 1 1 [_] rfl rfl (cell_one_new _ _ _) ?c2 ?c3 ?c4 ?c5 ?_)
      case c2 => (intro u hu; simp at hu; subst hu; rfl)
      case c3 => unfold maxLen; omega
      case c4 => omega
      case c5 => first | omega | (simp; omega)
      intro v' w5 hown hgrow _ hat
      have HK := (HL.alloc (.cells #[.int .i64 (z + x)] 3)).kept hgrow (fun k hk => (HL.a.lt k hk).1)
      have k2 := (c7_cells HK.1).2.2.1
      have f2 := HK.1.frozen 2
      obtain ⟨A', ca', rfl, HL5⟩ := (HL.alloc (.cells #[.int .i64 (z + x)] 3)).setLow hown hgrow (by simpa using hat)
      clear HL HK hown hgrow hat c2
      have hle : (lo ++ [z + x]).length + (j - 1) ≤ 3 := by simp; omega
      generalize lo ++ [z + x] = lo5 at *
      have c3 := (c7_cells HL5.p).2.2.2.1
      go_upto_region 9 with fail
      clear k2 f2
      have hsz5 := HL5.size
      generalize w5.setCell ⟨w.heap.size + 1, 2, none⟩ (.slice A' lo5.length ca') = W5 at *
      go_wp2_with (at_builtin; refine wpList_append_own_at _ rfl _ _ 41 rfl (w.heap.size + 2) 3 i0 (.int .i64 0) 1 8 Try.underlying41 HI.out.1 HI.out.2.1 HI.out.2.2.1 HI.out.2.2.2 rfl (by decide) _ _ _ rfl (HL5.alloc _).b ⟨W5.heap.size, 0, none⟩ 1 1 [_] rfl rfl (cell_one_new _ _ _) ?d2 ?d3 ?d4 ?d5 ?_)
      case d2 => (intro u hu; simp at hu; subst hu; rfl)
      case d3 => unfold maxLen; omega
      case d4 => omega
      case d5 => first | omega | (simp; omega)
      intro v' w6 hown hgrow _ hat
      have HK := (HL5.alloc (.cells #[.int .i64 (z + x + y)] 3)).kept hgrow (fun k hk => (HL5.b.lt k hk).1)
      have k3 := (c7_cells HK.1).2.2.2.1
      have f3 := HK.1.frozen 3
      obtain ⟨C', cc', rfl, HL6⟩ := (HL5.alloc (.cells #[.int .i64 (z + x + y)] 3)).setHigh hown hgrow (by simpa using hat)
      clear HL5 HK hown hgrow hat c3
      have hhe : (hi ++ [z + x + y]).length + (j - 1) ≤ 3 := by simp; omega
      generalize hi ++ [z + x + y] = hi6 at *
      go_wp2
      go_roundw
      case rel => exact ⟨lo5, hi6, A', C', ca', cc', j - 1, z + x + y + 2, rfl, by go_num, by omega, by omega, hle, hhe, HL6.mono (by omega)⟩
      case measure => simp [intOf]; omega
    · have hj2 : ¬ (0 : Int) < (j : Int) := by omega
      go_wp2_with fail
      refine (pick_any B g _ 3 _ HL.rd (by omega) (by omega) (by omega)).mono ?_
      rintro e w3 ⟨x, rfl, hx0, hx1, hrd3, hg3⟩
      replace HL := HL.touch hg3 hrd3
      clear hrd3 hg3
      go_upto_if 43 with fail
      go_cut [] (fun wx => ∃ (lo hi : List Int) (A C : Option Addr) (ca cc : Nat), lo.length ≤ 3 ∧ hi.length ≤ 3 ∧ CL w B g (N + 15) lo hi A C ca cc wx)
      case first =>
        by_cases hx : 0 < x
        · have k2 := (c7_cells HL.p).2.2.1
          have f2 := HL.p.frozen 2
          have HL2 := HL.newLow 97
          have hlt3 : w.heap.size + 1 < w3.heap.size := by have := HL.size; omega
          rw [World.setCell_alloc_past _ _ _ _ hlt3] at HL2
          go_upto_region 13 with fail
          clear k2 f2 HL
          generalize ((w3.setCell ⟨w.heap.size + 1, 2, none⟩ (.slice (some ⟨w3.heap.size, 0, none⟩) 1 1)).alloc (.cells #[.int .i64 97] 3)) = W3 at *
          go_wp2_with fail
          refine (pick_any B g _ 2 _ HL2.rd (by omega) (by omega) (by omega)).mono ?_
          rintro e w4 ⟨y, rfl, hy0, hy1, hrd4, hg4⟩
          replace HL2 := HL2.touch hg4 hrd4
          clear hrd4 hg4
          have k3 := (c7_cells HL2.p).2.2.2.1
          have f3 := HL2.p.frozen 3
          have hy2 : y ≤ 1 := by omega
          have HL3 := HL2.newHigh (98 + y)
          have hlt4 : w.heap.size + 1 < w4.heap.size := by have := HL2.size; omega
          rw [World.setCell_alloc_past _ _ _ _ hlt4] at HL3
          go_wp2_with fail
          go_meet
          exact ⟨[97], [98 + y], _, _, _, _, by simp, by simp, HL3.mono (by omega)⟩
        · go_wp2_with fail
          go_meet
          exact ⟨lo, hi, A, C, ca, cc, by omega, by omega, HL.mono (by omega)⟩
      case rest =>
        clear HL
        obtain ⟨lo', hi', A', C', ca', cc', hl', hh', HL⟩ := hcut
        obtain ⟨p0, p1, p2, p3, p4, p5, p6⟩ := c7_cells HL.p
        obtain ⟨r0, r1, r2, r3, r4, r5, r6⟩ := c7_cells HL.r
        have f0 := HL.r.frozen 0
        have f1 := HL.r.frozen 1
        have f2 := HL.r.frozen 2
        have f3 := HL.r.frozen 3
        have f4 := HL.r.frozen 4
        have f5 := HL.r.frozen 5
        have f6 := HL.r.frozen 6
        go_wp2
        obtain ⟨q0, q1, q2, q3, q4, q5, q6⟩ := c7_cells (seven_cell (k' := 2) (t' := ⟨#[]⟩) (A' := A') (la' := lo'.length) (ca' := ca') (C' := C') (lb' := hi'.length) (cb' := cc') (K' := none) (lk' := 0) (kc' := 0) (mn' := 0) (mx' := 0) HL.r)
        exact bodyPost_ret (v := .agg (c7 2 ⟨#[]⟩ A' lo'.length ca' C' hi'.length cc' none 0 0 0 0).toArray) (by simp [results, Try.results72, go_sem, q0, q1, q2, q3, q4, q5, q6, c7]) rfl (HL.done (by omega) hl' hh')

end Go.Proofs.Ytkgiklmdpdakbaa

