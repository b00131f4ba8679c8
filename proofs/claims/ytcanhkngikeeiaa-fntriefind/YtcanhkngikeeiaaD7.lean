/- What DrawVocLong and DrawTrieMake do. -/
import Derived.Test.YtcanhkngikeeiaaD6
namespace Go.Proofs.Ytcanhkngikeeiaa
open Go.RowKit
set_option linter.unusedVariables false

/-- While more is drawn behind a vocabulary: the variable v in block V, the result's block, the pieces, the reader. -/
structure DS (w0 : World) (B g N V : Nat) (en : Int) (ss : List ByteArray) (A : Option Addr) (cap : Nat) (w : World) : Prop where
  v : Own w V 25 [.slice A ss.length cap, .int .i64 en]
  r : Own w w0.heap.size 25 [.slice none 0 0, .int .i64 0]
  p : w.ownsRow B 9 1 (.slice A ss.length cap) ss.length (strs ss)
  rd : Rd w B g N
  fr : Below w0.heap.size w0 w
  rg : w0.heap.size < g
  bv : B ≤ V

section
variable {w0 w w' : World} {B g N N' V : Nat} {en : Int} {ss : List ByteArray} {A : Option Addr} {cap : Nat}

theorem DS.size (h : DS w0 B g N V en ss A cap w) : V < w.heap.size := h.v.lt
theorem DS.gB (h : DS w0 B g N V en ss A cap w) : g < B := h.rd.ltB
theorem DS.c0 (h : DS w0 B g N V en ss A cap w) : w.cell? ⟨V, 0, none⟩ = some (.slice A ss.length cap) := by rw [h.v.cell]; rfl
theorem DS.c1 (h : DS w0 B g N V en ss A cap w) : w.cell? ⟨V, 1, none⟩ = some (.int .i64 en) := by rw [h.v.cell]; rfl
theorem DS.r0 (h : DS w0 B g N V en ss A cap w) : w.cell? ⟨w0.heap.size, 0, none⟩ = some (.slice none 0 0) := by rw [h.r.cell]; rfl
theorem DS.r1 (h : DS w0 B g N V en ss A cap w) : w.cell? ⟨w0.heap.size, 1, none⟩ = some (.int .i64 0) := by rw [h.r.cell]; rfl
theorem DS.fr' (h : DS w0 B g N V en ss A cap w) (i : Nat) : w.frozen? ⟨w0.heap.size, i, none⟩ = false := h.r.frozen i
theorem DS.touch (h : DS w0 B g N V en ss A cap w) (hg : w.grownBy w' (some g)) (hr : Rd w' B g N') : DS w0 B g N' V en ss A cap w' :=
  ⟨own_touch h.v hg (by have := h.bv; have := h.gB; omega), own_touch h.r hg (by have := h.rg; omega), own_old h.p hg h.gB, hr, h.fr.grown hg h.fr.size (fun k hk => by injection hk with hk; have := h.rg; omega), h.rg, h.bv⟩
theorem DS.drew (h : DS w0 B g N V en ss A cap w) : DS w0 B g N V en ss A cap w.drew := ⟨h.v, h.r, h.p, h.rd.drew, h.fr.drew, h.rg, h.bv⟩
theorem DS.alloc (h : DS w0 B g N V en ss A cap w) (o : Obj) : DS w0 B g N V en ss A cap (w.alloc o) :=
  ⟨h.v.alloc o, h.r.alloc o, h.p.alloc o, h.rd.alloc (by have := h.size; have := h.bv; omega) o, h.fr.alloc h.fr.size o, h.rg, h.bv⟩
theorem DS.mono (h : DS w0 B g N V en ss A cap w) (hN : N ≤ N') : DS w0 B g N' V en ss A cap w := ⟨h.v, h.r, h.p, h.rd.mono (Nat.le_refl _) hN, h.fr, h.rg, h.bv⟩
/-- A row of the call's own beside the pieces is written. -/
theorem DS.other (h : DS w0 B g N V en ss A cap w) {row : Option Nat} (hg : w.grownBy w' row) (hr : ∀ k, row = some k → V < k) (hp : (Value.slice A ss.length cap).ownBlock = none ∨ (Value.slice A ss.length cap).ownBlock ≠ row) : DS w0 B g N V en ss A cap w' := by
  have hb := h.bv
  have hgB := h.gB
  have hrg := h.rg
  refine ⟨(hg.block V h.v.lt (fun e => by have := hr _ e.symm; omega)).trans h.v, (hg.block _ h.r.lt (fun e => by have := hr _ e.symm; omega)).trans h.r, h.p.kept hg hp,
    h.rd.grown (by have := h.size; omega) hg (fun k hk => by have := hr k hk; omega), h.fr.grown hg h.fr.size (fun k hk => by have := hr k hk; omega), h.rg, h.bv⟩
/-- What the result's block holds in the end. -/
theorem DS.res (h : DS w0 B g N V en ss A cap w) (a b : Value) :
    (w.setCell ⟨w0.heap.size, 0, none⟩ a).cell? ⟨w0.heap.size, 0, none⟩ = some a ∧ ((w.setCell ⟨w0.heap.size, 0, none⟩ a).setCell ⟨w0.heap.size, 1, none⟩ b).cell? ⟨w0.heap.size, 1, none⟩ = some b := by
  have h1 := h.r.set_ 0 a
  have h2 := h1.set_ 1 b
  exact ⟨by rw [h1.cell]; rfl, by rw [h2.cell]; rfl⟩
theorem DS.done (h : DS w0 B g N V en ss A cap w) (a b : Value) :
    ((w.setCell ⟨w0.heap.size, 0, none⟩ a).setCell ⟨w0.heap.size, 1, none⟩ b).ownsRow w0.heap.size 9 1 (.slice A ss.length cap) ss.length (strs ss) ∧ Below w0.heap.size w0 ((w.setCell ⟨w0.heap.size, 0, none⟩ a).setCell ⟨w0.heap.size, 1, none⟩ b) := by
  have hb := h.gB
  have hrg := h.rg
  exact ⟨own_base (own_far (own_far h.p (by simp; omega) _) (by simp; omega) _) (by omega), (h.fr.setCell (by simp) _).setCell (by simp) _⟩

/-- The beginning: a vocabulary has been drawn, and lies in v. -/
theorem DS.start {w1 w2 : World} (hr0 : Own w1 w0.heap.size 25 [.slice none 0 0, .int .i64 0]) (hfr : Below w0.heap.size w0 w1) (hB : B ≤ w1.heap.size) (hgB : g < B) (hrg : w0.heap.size < g)
    (hp : w2.ownsRow w1.heap.size 9 1 (.slice A ss.length cap) ss.length (strs ss)) (hrd : Rd w2 B g N) (hg : w1.grownBy w2 (some g)) :
    DS w0 B g N w2.heap.size en ss A cap (w2.alloc (.cells #[.slice A ss.length cap, .int .i64 en] 25)) :=
  ⟨by simpa using Own.new w2 25 #[.slice A ss.length cap, .int .i64 en], (own_touch hr0 hg (by omega)).alloc _, (own_base hp hB).alloc _, hrd.alloc (by have := hg.size; omega) _,
    (hfr.grown hg hfr.size (fun k hk => by injection hk with hk; omega)).alloc (by have := hfr.size; have := hg.size; omega) _, hrg, by have := hg.size; omega⟩
end

/-- A vocabulary and a text are drawn. -/
def DrawLongPost (w : World) (e : Ending) (w' : World) : Prop :=
  ∃ (ss : List ByteArray) (en : Int) (A : Option Addr) (cap : Nat) (t : ByteArray), e = .returned (.tuple #[.agg #[.slice A ss.length cap, .int .i64 en], .string t]) ∧ ss.length ≤ 50 ∧ (∀ s ∈ ss, s.size ≤ 10) ∧ -2 ≤ en ∧ en ≤ 50 ∧ t.size ≤ 1000 ∧
    w'.ownsRow w.heap.size 9 1 (.slice A ss.length cap) ss.length (strs ss) ∧ Below w.heap.size w w'

/-- A vocabulary is drawn. -/
def DrawVocPost (w : World) (e : Ending) (w' : World) : Prop :=
  ∃ (ss : List ByteArray) (en : Int) (A : Option Addr) (cap : Nat), e = .returned (.agg #[.slice A ss.length cap, .int .i64 en]) ∧ ss.length ≤ 50 ∧ (∀ s ∈ ss, s.size ≤ 10) ∧ -2 ≤ en ∧ en ≤ 50 ∧
    w'.ownsRow w.heap.size 9 1 (.slice A ss.length cap) ss.length (strs ss) ∧ Below w.heap.size w w'

set_option maxHeartbeats 1000000 in
theorem drawLong_any (C : Option Addr) (ccap : Nat) (zs : List Int) (w : World) (hrow : Row w C (byts zs)) (hz : zs.length ≤ 1048576) (hcap : zs.length ≤ ccap) (hzs : ∀ z ∈ zs, 0 ≤ z ∧ z ≤ 255) :
    Calls Try.prog 24 #[.slice C zs.length ccap] w (DrawLongPost w) := by
  have HR := Lib.hid hrow
  have HZ := Lib.hid hzs
  clear hrow hzs
  go_enter Try.func24, Try.ntmps24
  go_wp2_with fail
  refine (open_any C ccap zs _ (HR.out.alloc _) hz hcap HZ.out).mono ?_
  rintro e w1 ⟨g, rfl, hg, hrd1, hb1⟩
  have hr1 := (Own.new w 25 #[.slice none 0 0, .int .i64 0]).keep hb1
  have hfr1 : Below w.heap.size w w1 := (below_box _).trans (hb1.mono (by simp))
  simp at hg
  have hg1 := hrd1.lt
  clear hb1
  go_wp2_with fail
  refine (voc_any (g + 1) g 0 _ hrd1 (by omega) (by omega)).mono ?_
  rintro e w2 ⟨ss, en, A, cap, rfl, hl, hs, he0, he1, hp, hrd2, hg2⟩
  have HD := DS.start (en := en) hr1 hfr1 (show g + 1 ≤ w1.heap.size by omega) (by omega) (by omega) hp hrd2 hg2
  have HS := Lib.hid hs
  clear hr1 hfr1 hp hrd2 hg2 hs hrd1
  go_wp2_with fail
  refine (pick_any (g + 1) g _ 8 _ HD.rd (by omega) (by omega) (by omega)).mono ?_
  rintro e w3 ⟨x, rfl, hx0, hx1, hrd3, hg3⟩
  replace HD := HD.touch hg3 hrd3
  clear hg3 hrd3
  have hx2 : x ≤ 7 := by omega
  go_wp2
  go_loopw [6, 7] (fun t n wr => ∃ (tx : ByteArray) (j : Nat), t = .string tx ∧ n = .int .i64 j ∧ j ≤ 7 ∧ tx.size + 4 * j ≤ 28 ∧ DS w (g + 1) g (2000 - 20 * j) w2.heap.size en ss A cap wr) (fun _ n _ => (intOf n).toNat)
  case atStart => exact ⟨⟨#[]⟩, x.toNat, rfl, by go_num, by omega, by show 0 + _ ≤ _; omega, HD.mono (by omega)⟩
  case round =>
    clear HD
    obtain ⟨tx, j, rfl, rfl, hj7, hj, HD⟩ := hrel
    by_cases hj1 : 0 < j
    · have hj2 : (0 : Int) < (j : Int) := by omega
      go_wp2_with fail
      refine (bytes_any (g + 1) g _ 3 _ HD.rd (by have := HD.size; have := HD.bv; omega) (by omega) (by omega) (by omega)).mono ?_
      rintro e w4 ⟨s, rfl, hs, hrd4, hg4⟩
      replace HD := HD.touch hg4 hrd4
      clear hg4 hrd4
      go_wp2
      go_roundw
      case rel => exact ⟨tx ++ s, j - 1, rfl, by go_num, by omega, by rw [ByteArray.size_append]; omega, HD.mono (by omega)⟩
      case measure => simp [intOf]; omega
    · have hj2 : ¬ (0 : Int) < (j : Int) := by omega
      go_wp2_with fail
      refine (pick_any (g + 1) g _ 20 _ HD.rd (by omega) (by omega) (by omega)).mono ?_
      rintro e w4 ⟨y, rfl, hy0, hy1, hrd4, hg4⟩
      replace HD := HD.touch hg4 hrd4
      clear hg4 hrd4
      by_cases hy : y = 0
      · subst hy
        go_wp2_with fail
        refine (pick_any (g + 1) g _ 200 _ HD.rd (by omega) (by omega) (by omega)).mono ?_
        rintro e w5 ⟨z, rfl, hz0, hz1, hrd5, hg5⟩
        replace HD := HD.touch hg5 hrd5
        clear hg5 hrd5
        go_wp2_with fail
        refine (many_any ⟨#[97]⟩ (60 + z) _ (by omega) (by omega) (by show (1 : Nat) ≤ 100; omega)).mono ?_
        rintro e w6 ⟨t, rfl, ht, rfl⟩
        have ht2 : t.size ≤ 1000 := by rw [ht]; show 1 * _ ≤ 1000; omega
        clear ht
        have c0 := HD.c0
        have c1 := HD.c1
        have r0 := HD.r0
        have r1 := HD.r1
        have fr0 := HD.fr' 0
        have fr1 := HD.fr' 1
        go_wp2
        have q := HD.res (.slice A ss.length cap) (.int .i64 en)
        obtain ⟨d1, d2⟩ := HD.done (.slice A ss.length cap) (.int .i64 en)
        exact bodyPost_ret (v := .tuple #[.agg #[.slice A ss.length cap, .int .i64 en], .string t]) (by simp [results, Try.results24, go_sem, q.1, q.2]) rfl ⟨ss, en, A, cap, t, rfl, hl, HS.out, he0, he1, ht2, d1, d2⟩
      · have hy' : (y == 0) = false := by simpa using hy
        have c0 := HD.c0
        have c1 := HD.c1
        have r0 := HD.r0
        have r1 := HD.r1
        have fr0 := HD.fr' 0
        have fr1 := HD.fr' 1
        go_wp2
        have q := HD.res (.slice A ss.length cap) (.int .i64 en)
        obtain ⟨d1, d2⟩ := HD.done (.slice A ss.length cap) (.int .i64 en)
        exact bodyPost_ret (v := .tuple #[.agg #[.slice A ss.length cap, .int .i64 en], .string tx]) (by simp [results, Try.results24, go_sem, q.1, q.2]) rfl ⟨ss, en, A, cap, tx, rfl, hl, HS.out, he0, he1, by omega, d1, d2⟩

set_option maxHeartbeats 1000000 in
theorem drawTrie_any (C : Option Addr) (ccap : Nat) (zs : List Int) (w : World) (hrow : Row w C (byts zs)) (hz : zs.length ≤ 1048576) (hcap : zs.length ≤ ccap) (hzs : ∀ z ∈ zs, 0 ≤ z ∧ z ≤ 255) :
    Calls Try.prog 29 #[.slice C zs.length ccap] w (DrawVocPost w) := by
  have HR := Lib.hid hrow
  have HZ := Lib.hid hzs
  clear hrow hzs
  go_enter Try.func29, Try.ntmps29
  go_wp2_with fail
  refine (open_any C ccap zs _ (HR.out.alloc _) hz hcap HZ.out).mono ?_
  rintro e w1 ⟨g, rfl, hg, hrd1, hb1⟩
  have hr1 : Own w1 w.heap.size 25 [.slice none 0 0, .int .i64 0] := (Own.new w 25 #[.slice none 0 0, .int .i64 0]).keep hb1
  have hfr1 : Below w.heap.size w w1 := (below_box _).trans (hb1.mono (by simp))
  simp at hg
  have hg1 := hrd1.lt
  clear hb1
  go_wp2_with fail
  refine (voc_any (g + 1) g 0 _ hrd1 (by omega) (by omega)).mono ?_
  rintro e w2 ⟨ss, en, A, cap, rfl, hl, hs, he0, he1, hp, hrd2, hg2⟩
  have HS := Lib.hid hs
  have hr2 : Own w2 w.heap.size 25 [.slice none 0 0, .int .i64 0] := own_touch hr1 hg2 (by omega)
  have hfr2 : Below w.heap.size w w2 := hfr1.grown hg2 hfr1.size (fun k hk => by injection hk with hk; omega)
  have hs1 : w.heap.size < w1.heap.size := by omega
  have r0 : w2.cell? ⟨w.heap.size, 0, none⟩ = some (.slice none 0 0) := by rw [hr2.cell]; rfl
  have r1 : w2.cell? ⟨w.heap.size, 1, none⟩ = some (.int .i64 0) := by rw [hr2.cell]; rfl
  have fr0 := hr2.frozen 0
  have fr1 := hr2.frozen 1
  have HP := Lib.hid hp
  clear hr1 hfr1 hp hrd2 hg2 hs hrd1
  go_wp2
  have h1 := hr2.set_ 0 (.slice A ss.length cap)
  have h2 := h1.set_ 1 (.int .i64 en)
  have q1 : (w2.setCell ⟨w.heap.size, 0, none⟩ (.slice A ss.length cap)).cell? ⟨w.heap.size, 0, none⟩ = some (.slice A ss.length cap) := by rw [h1.cell]; rfl
  have q2 : ((w2.setCell ⟨w.heap.size, 0, none⟩ (.slice A ss.length cap)).setCell ⟨w.heap.size, 1, none⟩ (.int .i64 en)).cell? ⟨w.heap.size, 1, none⟩ = some (.int .i64 en) := by rw [h2.cell]; rfl
  exact bodyPost_ret (v := .agg #[.slice A ss.length cap, .int .i64 en]) (by simp [results, Try.results29, go_sem, q1, q2]) rfl ⟨ss, en, A, cap, rfl, hl, HS.out, he0, he1,
    own_base (own_far (own_far HP.out (by simp; omega) _) (by simp; omega) _) (by omega), (hfr2.setCell (by simp) _).setCell (by simp) _⟩

end Go.Proofs.Ytcanhkngikeeiaa
