/- A value that fits a schema, mostly, is drawn: l71Fit. -/
import Derived.Test.YtmmafhibojipjaaDoorJD4
namespace Go.Proofs.YtmmafhibojipjaaDoor
open Go.RowKit
set_option linter.unusedVariables false

theorem infoJs : (Tryd.prog.info? 26).map (fun i => (i.zero, i.size, i.bytes)) = some (some (.agg #[.int .i64 0, .bool false, .string ⟨#[]⟩, .slice none 0 0, .slice none 0 0]), 5, 80) := by kernel_rfl

def costF (n : Nat) : Nat := 20 * 6 ^ n
theorem costF_succ (n : Nat) : costF (n + 1) = 6 * costF n := by unfold costF; rw [Nat.pow_succ]; omega
theorem costF_one (n : Nat) : 20 ≤ costF n := by unfold costF; have := Nat.pow_pos (n := n) (show 0 < 6 by decide); omega

/-- A value is drawn: in new memory; of what was there only the reader's block has turned. -/
def FitJPost (w : World) (B g N c : Nat) (e : Ending) (w' : World) : Prop :=
  ∃ (k : Int) (f : Bool) (t : ByteArray) (ns : List ByteArray) (kids : List Js) (A K : Option Addr) (ca kc : Nat), e = .returned (.agg (c5 k f t A ns.length ca K kids.length kc).toArray) ∧
    JsCT w' w.heap.size ns kids A K ca kc ∧ LimJ 1000 (.mk k f t ns kids) ∧ Rd w' B g (N + c) ∧ w.grownBy w' (some g)
def FitD (n : Nat) : Prop := ∀ (k mn mx : Int) (ns : List ByteArray) (ms : List Bool) (kids : List Sc) (A M K : Option Addr) (ca ma kc : Nat) (B g N : Nat) (w : World), ScOk n (.mk k mn mx ns ms kids) → Rd w B g N → B ≤ w.heap.size → N + costF n ≤ 50000 →
  ScC w (fun b => b ≠ g) (c6 k mn mx A ns.length ca M ms.length ma K kids.length kc) (.mk k mn mx ns ms kids) →
  Calls Tryd.prog 40 #[.pointer (some ⟨g, 0, none⟩), .agg (c6 k mn mx A ns.length ca M ms.length ma K kids.length kc).toArray] w (FitJPost w B g N (costF n))

theorem c5_cells {w : World} {P : Nat} {k : Int} {f : Bool} {t : ByteArray} {A K : Option Addr} {la ca lk kc : Nat} (h : Own w P 26 (c5 k f t A la ca K lk kc)) :
    w.cell? ⟨P, 0, none⟩ = some (.int .i64 k) ∧ w.cell? ⟨P, 1, none⟩ = some (.bool f) ∧ w.cell? ⟨P, 2, none⟩ = some (.string t) ∧ w.cell? ⟨P, 3, none⟩ = some (.slice A la ca) ∧ w.cell? ⟨P, 4, none⟩ = some (.slice K lk kc) :=
  ⟨by rw [h.cell]; rfl, by rw [h.cell]; rfl, by rw [h.cell]; rfl, by rw [h.cell]; rfl, by rw [h.cell]; rfl⟩

/-- The five cells of a block are written. -/
def five (w : World) (R : Nat) (a b c d e : Value) : World := ((((w.setCell ⟨R, 0, none⟩ a).setCell ⟨R, 1, none⟩ b).setCell ⟨R, 2, none⟩ c).setCell ⟨R, 3, none⟩ d).setCell ⟨R, 4, none⟩ e
theorem five_other {R : Nat} {w : World} (a b c d e : Value) (i : Nat) (hi : i ≠ R) : (five w R a b c d e).heap[i]? = w.heap[i]? := by
  unfold five
  rw [Below.heap_setCell _ _ _ i hi, Below.heap_setCell _ _ _ i hi, Below.heap_setCell _ _ _ i hi, Below.heap_setCell _ _ _ i hi, Below.heap_setCell _ _ _ i hi]
theorem five_grown {R : Nat} {w0 w : World} {row : Option Nat} (h : w0.grownBy w row) (hR : w0.heap.size ≤ R) (a b c d e : Value) : w0.grownBy (five w R a b c d e) row :=
  set_grown (set_grown (set_grown (set_grown (set_grown h hR a) hR b) hR c) hR d) hR e
theorem five_cells {w : World} {R : Nat} {cs : List Value} (h : Own w R 26 cs) (hl : cs.length = 5) (k : Int) (f : Bool) (t : ByteArray) (A K : Option Addr) (la ca lk kc : Nat) :
    Own (five w R (.int .i64 k) (.bool f) (.string t) (.slice A la ca) (.slice K lk kc)) R 26 (c5 k f t A la ca K lk kc) := by
  have h5 := ((((h.set_ 0 (.int .i64 k)).set_ 1 (.bool f)).set_ 2 (.string t)).set_ 3 (.slice A la ca)).set_ 4 (.slice K lk kc)
  match cs, hl with
  | [a, b, c, d, e], _ => exact h5

/-- The result's block, and the schema's. -/
structure FR (w : World) (B g N : Nat) (sc : List Value) (w5 : World) : Prop where
  r : Own w5 (w.heap.size + 1) 26 (c5 0 false ⟨#[]⟩ none 0 0 none 0 0)
  s : Own w5 w.heap.size 72 sc
  rd : Rd w5 B g N
  fr : w.grownBy w5 (some g)
  hB : B ≤ w.heap.size
theorem FR.g_lt {w w5 : World} {B g N : Nat} {sc : List Value} (h : FR w B g N sc w5) : g < w.heap.size := by have := h.rd.ltB; have := h.hB; omega
theorem FR.touch {w w5 w' : World} {B g N N' : Nat} {sc : List Value} (h : FR w B g N sc w5) (hg : w5.grownBy w' (some g)) (hr : Rd w' B g N') : FR w B g N' sc w' :=
  ⟨own_touch h.r hg (by have := h.g_lt; omega), own_touch h.s hg (by have := h.g_lt; omega), hr, only_trans h.fr hg, h.hB⟩
theorem FR.alloc {w w5 : World} {B g N : Nat} {sc : List Value} (h : FR w B g N sc w5) (o : Obj) : FR w B g N sc (w5.alloc o) :=
  ⟨h.r.alloc o, h.s.alloc o, h.rd.alloc (by have := h.r.lt; have := h.hB; omega) o, only_alloc h.fr o, h.hB⟩
theorem FR.drew {w w5 : World} {B g N : Nat} {sc : List Value} (h : FR w B g N sc w5) : FR w B g N sc w5.drew :=
  ⟨h.r.drew, h.s.drew, h.rd.drew, ⟨h.fr.os, h.fr.tape, h.fr.output, h.fr.size, h.fr.block⟩, h.hB⟩
/-- A value that has only a kind, a flag and a text is handed back. -/
theorem FR.leaf {w w5 : World} {B g N M c : Nat} {sc : List Value} (h : FR w B g M sc w5) (hM : M ≤ N + c) (k : Int) (f : Bool) (t : ByteArray) (ht : t.size ≤ 1000) :
    FitJPost w B g N c (.returned (.agg (c5 k f t none 0 0 none 0 0).toArray)) (five w5 (w.heap.size + 1) (.int .i64 k) (.bool f) (.string t) (.slice none 0 0) (.slice none 0 0)) :=
  ⟨k, f, t, [], [], none, none, 0, 0, rfl, JsCT.bare _ _, .mk k f t [] [] ht (by simp) (by simp) (by simp) (by simp), (h.rd.keep fun b hb => five_other _ _ _ _ _ b (by have := h.hB; omega)).mono (Nat.le_refl _) hM, five_grown h.fr (by omega) _ _ _ _ _⟩

theorem ScC.name {w : World} {g : Nat} {k mn mx : Int} {ns : List ByteArray} {ms : List Bool} {kids : List Sc} {A M K : Option Addr} {ca ma kc : Nat} (h : ScC w (fun b => b ≠ g) (c6 k mn mx A ns.length ca M ms.length ma K kids.length kc) (.mk k mn mx ns ms kids)) {i : Nat} (hi : i < ns.length) :
    ∃ b off, A = some ⟨b, off, none⟩ ∧ ∀ w', w.grownBy w' (some g) → w'.cell? ⟨b, off + i, none⟩ = some (.string ns[i]) := by
  generalize hcs : c6 k mn mx A ns.length ca M ms.length ma K kids.length kc = cs at h
  generalize hp : Sc.mk k mn mx ns ms kids = p at h
  cases h with
  | mk k0 mn0 mx0 ns0 ms0 kids0 A0 M0 K0 ca0 ma0 kc0 kb ko css hA hM lA lM eA eM hK hl hc hk =>
    injection hp with _ _ _ e1 e2 e3
    subst e1 e2 e3
    simp only [c6, List.cons.injEq, Value.slice.injEq, and_true, true_and] at hcs
    obtain ⟨_, _, _, ⟨rfl, _⟩, _⟩ := hcs
    obtain ⟨b, off, e, hcell⟩ := hA.at_ (k := i) (by simpa using hi)
    refine ⟨b, off, e, fun w' hg => ?_⟩
    rw [World.cell?_of_block (w := w) (hg.block b (cell_lt hcell) (fun e' => lA (by rintro rfl; simp at hi) _ e (by injection e' with e'))), hcell]
    simp [strs]
theorem ScC.must {w : World} {g : Nat} {k mn mx : Int} {ns : List ByteArray} {ms : List Bool} {kids : List Sc} {A M K : Option Addr} {ca ma kc : Nat} (h : ScC w (fun b => b ≠ g) (c6 k mn mx A ns.length ca M ms.length ma K kids.length kc) (.mk k mn mx ns ms kids)) {i : Nat} (hi : i < ms.length) :
    ∃ b off, M = some ⟨b, off, none⟩ ∧ ∀ w', w.grownBy w' (some g) → w'.cell? ⟨b, off + i, none⟩ = some (.bool ms[i]) := by
  generalize hcs : c6 k mn mx A ns.length ca M ms.length ma K kids.length kc = cs at h
  generalize hp : Sc.mk k mn mx ns ms kids = p at h
  cases h with
  | mk k0 mn0 mx0 ns0 ms0 kids0 A0 M0 K0 ca0 ma0 kc0 kb ko css hA hM lA lM eA eM hK hl hc hk =>
    injection hp with _ _ _ e1 e2 e3
    subst e1 e2 e3
    simp only [c6, List.cons.injEq, Value.slice.injEq, and_true, true_and] at hcs
    obtain ⟨_, _, _, _, ⟨rfl, _⟩, _⟩ := hcs
    obtain ⟨b, off, e, hcell⟩ := hM.at_ (k := i) (by simpa using hi)
    refine ⟨b, off, e, fun w' hg => ?_⟩
    rw [World.cell?_of_block (w := w) (hg.block b (cell_lt hcell) (fun e' => lM (by rintro rfl; simp at hi) _ e (by injection e' with e'))), hcell]
    simp [bols]
/-- What is read of a schema that came in: its kids. -/
theorem ScC.kid {w : World} {g : Nat} {k mn mx : Int} {ns : List ByteArray} {ms : List Bool} {kids : List Sc} {A M K : Option Addr} {ca ma kc : Nat} (h : ScC w (fun b => b ≠ g) (c6 k mn mx A ns.length ca M ms.length ma K kids.length kc) (.mk k mn mx ns ms kids)) {i : Nat} (hi : i < kids.length) :
    ∃ (b off : Nat) (k' mn' mx' : Int) (ns' : List ByteArray) (ms' : List Bool) (kids' : List Sc) (A' M' K' : Option Addr) (ca' ma' kc' : Nat), K = some ⟨b, off, none⟩ ∧ kids[i] = .mk k' mn' mx' ns' ms' kids' ∧ ∀ w', w.grownBy w' (some g) →
      ScC w' (fun b => b ≠ g) (c6 k' mn' mx' A' ns'.length ca' M' ms'.length ma' K' kids'.length kc') (.mk k' mn' mx' ns' ms' kids') ∧
      w'.cell? ⟨b, off + i * 6, none⟩ = some (.int .i64 k') ∧ w'.cell? ⟨b, off + i * 6 + 1, none⟩ = some (.int .i64 mn') ∧ w'.cell? ⟨b, off + i * 6 + 2, none⟩ = some (.int .i64 mx') ∧ w'.cell? ⟨b, off + i * 6 + 3, none⟩ = some (.slice A' ns'.length ca') ∧ w'.cell? ⟨b, off + i * 6 + 4, none⟩ = some (.slice M' ms'.length ma') ∧ w'.cell? ⟨b, off + i * 6 + 5, none⟩ = some (.slice K' kids'.length kc') := by
  generalize hcs : c6 k mn mx A ns.length ca M ms.length ma K kids.length kc = cs at h
  generalize hp : Sc.mk k mn mx ns ms kids = p at h
  cases h with
  | mk k0 mn0 mx0 ns0 ms0 kids0 A0 M0 K0 ca0 ma0 kc0 kb ko css hA hM lA lM eA eM hK hl hc hk =>
    injection hp with _ _ _ e1 e2 e3
    subst e1 e2 e3
    simp only [c6, List.cons.injEq, Value.slice.injEq, and_true, true_and] at hcs
    obtain ⟨_, _, _, _, _, rfl, _⟩ := hcs
    have hne : kids ≠ [] := by rintro rfl; simp at hi
    have hki := hk i hi
    have hci := hc i hi
    generalize hcc : css i = cc at hki hci
    generalize hkk : kids[i] = kk at hki
    cases hki with
    | mk k' mn' mx' ns' ms' kids' A' M' K' ca' ma' kc' kb' ko' css' hA' hM' lA' lM' eA' eM' hK' hl' hc' hk' =>
      refine ⟨kb, ko, k', mn', mx', ns', ms', kids', A', M', K', ca', ma', kc', (hK hne).1, rfl, fun w' hg => ?_⟩
      have hF : ∀ b, b ≠ g → b < w.heap.size → w'.heap[b]? = w.heap[b]? := fun b hb hl => hg.block b hl (fun e => hb (Option.some.inj e))
      have mvc : ∀ j u, (c6 k' mn' mx' A' ns'.length ca' M' ms'.length ma' K' kids'.length kc')[j]? = some u → w'.cell? ⟨kb, ko + i * 6 + j, none⟩ = some u := fun j u hu => by
        have h1 := hci j u hu
        rw [World.cell?_of_block (w := w) (hF kb (hK hne).2 (cell_lt h1))]; exact h1
      exact ⟨(ScC.mk k' mn' mx' ns' ms' kids' A' M' K' ca' ma' kc' kb' ko' css' hA' hM' lA' lM' eA' eM' hK' hl' hc' hk').mv hF, mvc 0 _ rfl, mvc 1 _ rfl, mvc 2 _ rfl, mvc 3 _ rfl, mvc 4 _ rfl, mvc 5 _ rfl⟩

set_option maxRecDepth 100000 in
set_option maxHeartbeats 8000000 in
theorem fit_step {n : Nat} (IH : FitD n) (hn : n ≤ 3) : FitD (n + 1) := by
  intro k mn mx ns ms kids A M KA ca ma kc B g N w hok hrd hB hN hsc
  obtain ⟨i0, hi0, hz0, hz1, hz2⟩ := info_parts infoJs
  have HI := Lib.hid (And.intro hi0 (And.intro hz0 (And.intro hz1 hz2)))
  clear hi0 hz0 hz1 hz2
  obtain ⟨i1, hi0, hz0, hz1, hz2⟩ := info_parts infoSt
  have HIS := Lib.hid (And.intro hi0 (And.intro hz0 (And.intro hz1 hz2)))
  clear hi0 hz0 hz1 hz2
  have HIH := Lib.hid IH
  clear IH
  rw [costF_succ] at hN ⊢
  have hc1 := costF_one n
  have HSC := Lib.hid hsc
  clear hsc
  obtain ⟨w1, hw1⟩ : ∃ w1, (w.alloc (.cells #[.int .i64 k, .int .i64 mn, .int .i64 mx, .slice A ns.length ca, .slice M ms.length ma, .slice KA kids.length kc] 72)).alloc (.cells #[.int .i64 0, .bool false, .string ⟨#[]⟩, .slice none 0 0, .slice none 0 0] 26) = w1 := ⟨_, rfl⟩
  have HF : FR w B g N (c6 k mn mx A ns.length ca M ms.length ma KA kids.length kc) w1 := by
    rw [← hw1]
    exact ⟨by have h := Own.new (w.alloc (.cells #[.int .i64 k, .int .i64 mn, .int .i64 mx, .slice A ns.length ca, .slice M ms.length ma, .slice KA kids.length kc] 72)) 26 #[.int .i64 0, .bool false, .string ⟨#[]⟩, .slice none 0 0, .slice none 0 0]
              rw [World.size_alloc] at h; exact h,
      (Own.new w 72 #[.int .i64 k, .int .i64 mn, .int .i64 mx, .slice A ns.length ca, .slice M ms.length ma, .slice KA kids.length kc]).alloc _,
      (hrd.alloc hB _).alloc (by simp; omega) _, only_alloc (only_alloc (only_of_below (Below.refl _ _) (Nat.le_refl _) _) _) _, hB⟩
  have HSZ1 : Hid (w1.heap.size = w.heap.size + 2) := by show _ = _; rw [← hw1]; simp
  have HW1 := Lib.hid hw1
  clear hw1 hrd
  cases hok with
  | mk _ _ _ _ _ _ _ hk1 hk8 hmn0 hmn2 hmx0 hmx2 hK5 hK6 hK7 hK8 hnl hns hkl hkids =>
  have HKC := Lib.hid (And.intro hK5 (And.intro hK6 (And.intro hK7 hK8)))
  have HNS := Lib.hid hns
  have HKS := Lib.hid hkids
  clear hK5 hK6 hK7 hK8 hns hkids
  simp only [c6]
  go_enter Tryd.func40, Tryd.ntmps40
  have a0 := (c6_cells HF.s).1
  go_upto_region 2 with fail
  rw [HW1.out]
  clear HW1
  by_cases k1 : k = 1
  · have q1' : (k == 1) = true := by simp [k1]
    clear k1
    clear a0
    obtain ⟨r0, r1, r2, r3, r4⟩ := c5_cells HF.r
    have f0 := HF.r.frozen 0
    have f1 := HF.r.frozen 1
    have f2 := HF.r.frozen 2
    have f3 := HF.r.frozen 3
    have f4 := HF.r.frozen 4
    have rl := HF.r.lt
    go_wp2
    obtain ⟨q0, q1, q2, q3, q4⟩ := c5_cells (five_cells HF.r rfl (1) (false) (⟨#[]⟩) none none 0 0 0 0)
    simp only [five] at q0 q1 q2 q3 q4
    exact bodyPost_ret (v := .agg (c5 (1) (false) (⟨#[]⟩) none 0 0 none 0 0).toArray) (by simp [results, Tryd.results40, go_sem, q0, q1, q2, q3, q4, c5]) rfl (HF.leaf (by omega) (1) (false) (⟨#[]⟩) (by decide))
  have q1' : (k == 1) = false := by simp [k1]
  by_cases k2 : k = 2
  · have q2' : (k == 2) = true := by simp [k2]
    clear k1 k2
    go_wp2_with fail
    refine (pick_any B g N 2 _ HF.rd (by omega) (by omega) (by omega)).mono ?_
    rintro e w2 ⟨v, rfl, hv0, hv1, hrd2, hg2⟩
    replace HF := HF.touch hg2 hrd2
    clear hrd2 hg2 hv1 a0
    obtain ⟨r0, r1, r2, r3, r4⟩ := c5_cells HF.r
    have f0 := HF.r.frozen 0
    have f1 := HF.r.frozen 1
    have f2 := HF.r.frozen 2
    have f3 := HF.r.frozen 3
    have f4 := HF.r.frozen 4
    have rl := HF.r.lt
    go_wp2
    obtain ⟨q0, q1, q2, q3, q4⟩ := c5_cells (five_cells HF.r rfl (2) (v == 0) (⟨#[]⟩) none none 0 0 0 0)
    simp only [five] at q0 q1 q2 q3 q4
    exact bodyPost_ret (v := .agg (c5 (2) (v == 0) (⟨#[]⟩) none 0 0 none 0 0).toArray) (by simp [results, Tryd.results40, go_sem, q0, q1, q2, q3, q4, c5]) rfl (HF.leaf (by omega) (2) (v == 0) (⟨#[]⟩) (by decide))
  have q2' : (k == 2) = false := by simp [k2]
  by_cases k3 : k = 3
  · have q3' : (k == 3) = true := by simp [k3]
    clear k1 k2 k3
    go_wp2_with fail
    have HO := Lib.hid (Own.new w1 9 #[.string ⟨#[48]⟩, .string ⟨#[55]⟩, .string ⟨#[45, 49, 50]⟩, .string ⟨#[49, 50, 51, 52, 53, 54, 55]⟩, .string ⟨#[49, 50, 51, 52, 53, 54, 55, 56]⟩, .string ⟨#[48, 49]⟩, .string ⟨#[45, 48]⟩])
    have hsz := HF.r.lt
    replace HF := HF.alloc (.cells #[.string ⟨#[48]⟩, .string ⟨#[55]⟩, .string ⟨#[45, 49, 50]⟩, .string ⟨#[49, 50, 51, 52, 53, 54, 55]⟩, .string ⟨#[49, 50, 51, 52, 53, 54, 55, 56]⟩, .string ⟨#[48, 49]⟩, .string ⟨#[45, 48]⟩] 9)
    have hg0 := HF.g_lt
    have HC := (of_any B g N w1.heap.size 0 7 [⟨#[48]⟩, ⟨#[55]⟩, ⟨#[45, 49, 50]⟩, ⟨#[49, 50, 51, 52, 53, 54, 55]⟩, ⟨#[49, 50, 51, 52, 53, 54, 55, 56]⟩, ⟨#[48, 49]⟩, ⟨#[45, 48]⟩] _ HF.rd (by omega) (by decide) (by decide) (by omega) (fun i hi => by
      rw [Nat.zero_add, HO.out.cell]
      have h7 : i = 0 ∨ i = 1 ∨ i = 2 ∨ i = 3 ∨ i = 4 ∨ i = 5 ∨ i = 6 := by simp at hi; omega
      rcases h7 with rfl | rfl | rfl | rfl | rfl | rfl | rfl <;> rfl))
    have HC2 := Lib.hid HC
    clear HC
    refine HC2.out.mono ?_
    rintro e w2 ⟨s, rfl, hs, hrd2, hg2⟩
    have hs7 : s.size ≤ 1000 := by
      simp only [List.mem_cons, List.mem_nil_iff, or_false] at hs
      rcases hs with rfl | rfl | rfl | rfl | rfl | rfl | rfl <;> decide
    replace HF := HF.touch hg2 hrd2
    clear hrd2 hg2 a0 hs HO
    obtain ⟨r0, r1, r2, r3, r4⟩ := c5_cells HF.r
    have f0 := HF.r.frozen 0
    have f1 := HF.r.frozen 1
    have f2 := HF.r.frozen 2
    have f3 := HF.r.frozen 3
    have f4 := HF.r.frozen 4
    have rl := HF.r.lt
    go_wp2
    obtain ⟨q0, q1, q2, q3, q4⟩ := c5_cells (five_cells HF.r rfl (3) (false) (s) none none 0 0 0 0)
    simp only [five] at q0 q1 q2 q3 q4
    exact bodyPost_ret (v := .agg (c5 (3) (false) (s) none 0 0 none 0 0).toArray) (by simp [results, Tryd.results40, go_sem, q0, q1, q2, q3, q4, c5]) rfl (HF.leaf (by omega) (3) (false) (s) hs7)
  have q3' : (k == 3) = false := by simp [k3]
  by_cases k4 : k = 4
  · have q4' : (k == 4) = true := by simp [k4]
    clear k1 k2 k3 k4
    obtain ⟨c0, c1, c2, c3, c4, c5'⟩ := c6_cells HF.s
    clear c0 c3 c4 c5'
    go_wp2
    refine wp_region_held_drew (S := (fun X => X.cell? ⟨w.heap.size, 1, none⟩ = some (.int .i64 mn) ∧ X.cell? ⟨w.heap.size, 2, none⟩ = some (.int .i64 mx))) (by kernel_rfl) ?_ (fun hHeld => ?_)
    · exact ⟨c1, c2⟩
    clear c1 c2 a0
    have hw1 := IntWalk.i64_in (mx - mn) (by omega)
    have hw2 := IntWalk.i64_in (mx - mn + 1) (by omega)
    (first
      | (refine held_take (i := 0) (v := ?_) rfl (by kernel_rfl) (by kernel_rfl) (by kernel_rfl) (fun _ _ _ h => h) (Or.inl ⟨rfl, ?_⟩) (by assumption) ?_; rotate_left; (intro X hSw; (try dsimp only at hSw); (go_simp <;> with_reducible rfl)))
      | (refine held_take (i := 0) (v := undef) rfl (by kernel_rfl) (by kernel_rfl) (by kernel_rfl) (fun _ _ _ h => h) (Or.inr ⟨rfl, rfl⟩) (by assumption) ?_)); simp only [Act.put, List.setIfInBounds_toArray, List.set_cons_zero, List.set_cons_succ]
    (first
      | (refine held_take (i := 3) (v := ?_) rfl (by kernel_rfl) (by kernel_rfl) (by kernel_rfl) (fun _ _ _ h => h) (Or.inl ⟨rfl, ?_⟩) (by assumption) ?_; rotate_left; (intro X hSw; (try dsimp only at hSw); (go_simp <;> with_reducible rfl)))
      | (refine held_take (i := 3) (v := undef) rfl (by kernel_rfl) (by kernel_rfl) (by kernel_rfl) (fun _ _ _ h => h) (Or.inr ⟨rfl, rfl⟩) (by assumption) ?_)); simp only [Act.put, List.setIfInBounds_toArray, List.set_cons_zero, List.set_cons_succ]
    (first
      | (refine held_take (i := 4) (v := ?_) rfl (by kernel_rfl) (by kernel_rfl) (by kernel_rfl) (fun _ _ _ h => h) (Or.inl ⟨rfl, ?_⟩) (by assumption) ?_; rotate_left; (intro X hSw; (try dsimp only at hSw); (go_simp <;> with_reducible rfl)))
      | (refine held_take (i := 4) (v := undef) rfl (by kernel_rfl) (by kernel_rfl) (by kernel_rfl) (fun _ _ _ h => h) (Or.inr ⟨rfl, rfl⟩) (by assumption) ?_)); simp only [Act.put, List.setIfInBounds_toArray, List.set_cons_zero, List.set_cons_succ]
    (first
      | (refine held_take (i := 5) (v := ?_) rfl (by kernel_rfl) (by kernel_rfl) (by kernel_rfl) (fun _ _ _ h => h) (Or.inl ⟨rfl, ?_⟩) (by assumption) ?_; rotate_left; (intro X hSw; (try dsimp only at hSw); (go_simp <;> with_reducible rfl)))
      | (refine held_take (i := 5) (v := undef) rfl (by kernel_rfl) (by kernel_rfl) (by kernel_rfl) (fun _ _ _ h => h) (Or.inr ⟨rfl, rfl⟩) (by assumption) ?_)); simp only [Act.put, List.setIfInBounds_toArray, List.set_cons_zero, List.set_cons_succ]
    (first
      | (refine held_take (i := 6) (v := ?_) rfl (by kernel_rfl) (by kernel_rfl) (by kernel_rfl) (fun _ _ _ h => h) (Or.inl ⟨rfl, ?_⟩) (by assumption) ?_; rotate_left; (intro X hSw; (try dsimp only at hSw); (go_simp <;> with_reducible rfl)))
      | (refine held_take (i := 6) (v := undef) rfl (by kernel_rfl) (by kernel_rfl) (by kernel_rfl) (fun _ _ _ h => h) (Or.inr ⟨rfl, rfl⟩) (by assumption) ?_)); simp only [Act.put, List.setIfInBounds_toArray, List.set_cons_zero, List.set_cons_succ]
    (first
      | (refine held_take (i := 7) (v := ?_) rfl (by kernel_rfl) (by kernel_rfl) (by kernel_rfl) (fun _ _ _ h => h) (Or.inl ⟨rfl, ?_⟩) (by assumption) ?_; rotate_left; (intro X hSw; (try dsimp only at hSw); (go_simp <;> with_reducible rfl)))
      | (refine held_take (i := 7) (v := undef) rfl (by kernel_rfl) (by kernel_rfl) (by kernel_rfl) (fun _ _ _ h => h) (Or.inr ⟨rfl, rfl⟩) (by assumption) ?_)); simp only [Act.put, List.setIfInBounds_toArray, List.set_cons_zero, List.set_cons_succ]
    (first
      | (refine held_take (i := 8) (v := ?_) rfl (by kernel_rfl) (by kernel_rfl) (by kernel_rfl) (fun _ _ _ h => h) (Or.inl ⟨rfl, ?_⟩) (by assumption) ?_; rotate_left; (intro X hSw; (try dsimp only at hSw); (go_simp <;> with_reducible rfl)))
      | (refine held_take (i := 8) (v := undef) rfl (by kernel_rfl) (by kernel_rfl) (by kernel_rfl) (fun _ _ _ h => h) (Or.inr ⟨rfl, rfl⟩) (by assumption) ?_)); simp only [Act.put, List.setIfInBounds_toArray, List.set_cons_zero, List.set_cons_succ]
    (first
      | (refine held_take (i := 9) (v := ?_) rfl (by kernel_rfl) (by kernel_rfl) (by kernel_rfl) (fun _ _ _ h => h) (Or.inl ⟨rfl, ?_⟩) (by assumption) ?_; rotate_left; (intro X hSw; (try dsimp only at hSw); (go_simp <;> with_reducible rfl)))
      | (refine held_take (i := 9) (v := undef) rfl (by kernel_rfl) (by kernel_rfl) (by kernel_rfl) (fun _ _ _ h => h) (Or.inr ⟨rfl, rfl⟩) (by assumption) ?_)); simp only [Act.put, List.setIfInBounds_toArray, List.set_cons_zero, List.set_cons_succ]
    (first
      | (refine held_take (i := 10) (v := ?_) rfl (by kernel_rfl) (by kernel_rfl) (by kernel_rfl) (fun _ _ _ h => h) (Or.inl ⟨rfl, ?_⟩) (by assumption) ?_; rotate_left; (intro X hSw; (try dsimp only at hSw); (go_simp <;> with_reducible rfl)))
      | (refine held_take (i := 10) (v := undef) rfl (by kernel_rfl) (by kernel_rfl) (by kernel_rfl) (fun _ _ _ h => h) (Or.inr ⟨rfl, rfl⟩) (by assumption) ?_)); simp only [Act.put, List.setIfInBounds_toArray, List.set_cons_zero, List.set_cons_succ]
    (first
      | (refine held_take (i := 11) (v := ?_) rfl (by kernel_rfl) (by kernel_rfl) (by kernel_rfl) (fun _ _ _ h => h) (Or.inl ⟨rfl, ?_⟩) (by assumption) ?_; rotate_left; (intro X hSw; (try dsimp only at hSw); (go_simp <;> with_reducible rfl)))
      | (refine held_take (i := 11) (v := undef) rfl (by kernel_rfl) (by kernel_rfl) (by kernel_rfl) (fun _ _ _ h => h) (Or.inr ⟨rfl, rfl⟩) (by assumption) ?_)); simp only [Act.put, List.setIfInBounds_toArray, List.set_cons_zero, List.set_cons_succ]
    (first
      | (refine held_take (i := 12) (v := ?_) rfl (by kernel_rfl) (by kernel_rfl) (by kernel_rfl) (fun _ _ _ h => h) (Or.inl ⟨rfl, ?_⟩) (by assumption) ?_; rotate_left; (intro X hSw; (try dsimp only at hSw); (go_simp <;> with_reducible rfl)))
      | (refine held_take (i := 12) (v := undef) rfl (by kernel_rfl) (by kernel_rfl) (by kernel_rfl) (fun _ _ _ h => h) (Or.inr ⟨rfl, rfl⟩) (by assumption) ?_)); simp only [Act.put, List.setIfInBounds_toArray, List.set_cons_zero, List.set_cons_succ]
    have HO := Lib.hid ((Own.new w1 9 #[.string ⟨#[97]⟩, .string ⟨#[32]⟩, .string ⟨#[126]⟩]).drew)
    have hsz := HF.r.lt
    have hg0 := HF.g_lt
    refine wpAnyH_ready (rs := [1]) (by kernel_rfl) (by simp) ?_
    refine AllReadyH.cons rfl (fun K hK => ?_) AllReadyH.nil
    replace HF := (HF.alloc (.cells #[.string ⟨#[97]⟩, .string ⟨#[32]⟩, .string ⟨#[126]⟩] 9)).drew
    have HOF := Lib.hid (of_any B g N w1.heap.size 0 3 [⟨#[97]⟩, ⟨#[32]⟩, ⟨#[126]⟩] _ HF.rd (by omega) (by decide) (by decide) (by omega) (fun i hi => by
      rw [Nat.zero_add, HO.out.cell]
      have h7 : i = 0 ∨ i = 1 ∨ i = 2 := by simp at hi; omega
      rcases h7 with rfl | rfl | rfl <;> rfl))
    clear hHeld
    go_simp
    refine hK.out _ _ ?_ (fun hHeld => ?_)
    · exact ⟨(c6_cells HF.s).2.1, (c6_cells HF.s).2.2.1⟩
    clear hK K
    refine wpAnyH_ready (rs := [2]) (by kernel_rfl) (by simp) ?_
    refine AllReadyH.cons rfl (fun K hK => ?_) AllReadyH.nil
    go_simp
    refine HOF.out.mono ?_
    rintro e w2 ⟨s, rfl, hs, hrd2, hg2⟩
    have hs7 : s.size = 1 := by
      simp only [List.mem_cons, List.mem_nil_iff, or_false] at hs
      rcases hs with rfl | rfl | rfl <;> decide
    replace HF := HF.touch hg2 hrd2
    clear hrd2 hg2 hs HO HOF hHeld
    refine hK.out _ _ ?_ (fun hHeld => ?_)
    · exact ⟨(c6_cells HF.s).2.1, (c6_cells HF.s).2.2.1⟩
    clear hK K
    have HP := Lib.hid (pick_any B g (N + 1) 9 _ HF.rd (by omega) (by omega) (by omega))
    refine wpAnyH_ready (rs := [13]) (by kernel_rfl) (by simp) ?_
    refine AllReadyH.cons rfl (fun K hK => ?_) AllReadyH.nil
    go_simp
    refine HP.out.mono ?_
    rintro e w3 ⟨v, rfl, hv0, hv1, hrd2, hg2⟩
    have hv2 : v ≤ 8 := by rcases hv1 with h | h <;> omega
    replace HF := HF.touch hg2 hrd2
    clear hrd2 hg2 hv1 HP hHeld
    refine hK.out _ _ ?_ (fun hHeld => ?_)
    · exact ⟨(c6_cells HF.s).2.1, (c6_cells HF.s).2.2.1⟩
    clear hK K
    have hq0 : 0 ≤ v / 8 := Int.ediv_nonneg hv0 (by omega)
    have hq1 : v / 8 ≤ 1 := by omega
    have hq : IntKind.i64.wrap (v.tdiv 8) = v / 8 := by rw [Int.tdiv_eq_ediv_of_nonneg hv0]; exact IntWalk.i64_in _ (by omega)
    have HQ := Lib.hid hq
    clear hq
    (first
      | (refine held_take (i := 14) (v := ?_) rfl (by kernel_rfl) (by kernel_rfl) (by kernel_rfl) (fun _ _ _ h => h) (Or.inl ⟨rfl, ?_⟩) (by assumption) ?_; rotate_left; (intro X hSw; (try dsimp only at hSw); (go_simp <;> with_reducible rfl)))
      | (refine held_take (i := 14) (v := undef) rfl (by kernel_rfl) (by kernel_rfl) (by kernel_rfl) (fun _ _ _ h => h) (Or.inr ⟨rfl, rfl⟩) (by assumption) ?_)); simp only [Act.put, List.setIfInBounds_toArray, List.set_cons_zero, List.set_cons_succ]
    rw [HQ.out]
    clear HQ
    generalize v / 8 = q at *
    have hw3 := IntWalk.i64_in (mx - mn + 1 + q) (by omega)
    (first
      | (refine held_take (i := 15) (v := ?_) rfl (by kernel_rfl) (by kernel_rfl) (by kernel_rfl) (fun _ _ _ h => h) (Or.inl ⟨rfl, ?_⟩) (by assumption) ?_; rotate_left; (intro X hSw; (try dsimp only at hSw); (go_simp <;> with_reducible rfl)))
      | (refine held_take (i := 15) (v := undef) rfl (by kernel_rfl) (by kernel_rfl) (by kernel_rfl) (fun _ _ _ h => h) (Or.inr ⟨rfl, rfl⟩) (by assumption) ?_)); simp only [Act.put, List.setIfInBounds_toArray, List.set_cons_zero, List.set_cons_succ]
    have HP := Lib.hid (pick_any B g (N + 1 + 1) (mx - mn + 1 + q) _ HF.rd (by omega) (by omega) (by omega))
    refine wpAnyH_ready (rs := [16]) (by kernel_rfl) (by simp) ?_
    refine AllReadyH.cons rfl (fun K hK => ?_) AllReadyH.nil
    go_simp
    refine HP.out.mono ?_
    rintro e w4 ⟨u, rfl, hu0, hu1, hrd2, hg2⟩
    have hu2 : u ≤ 4 := by rcases hu1 with h | h <;> omega
    replace HF := HF.touch hg2 hrd2
    clear hrd2 hg2 hu1 HP hHeld hw3
    refine hK.out _ _ ?_ (fun hHeld => ?_)
    · exact ⟨(c6_cells HF.s).2.1, (c6_cells HF.s).2.2.1⟩
    clear hK K
    have hw4 := IntWalk.i64_in (mn + u) (by omega)
    (first
      | (refine held_take (i := 17) (v := ?_) rfl (by kernel_rfl) (by kernel_rfl) (by kernel_rfl) (fun _ _ _ h => h) (Or.inl ⟨rfl, ?_⟩) (by assumption) ?_; rotate_left; (intro X hSw; (try dsimp only at hSw); (go_simp <;> with_reducible rfl)))
      | (refine held_take (i := 17) (v := undef) rfl (by kernel_rfl) (by kernel_rfl) (by kernel_rfl) (fun _ _ _ h => h) (Or.inr ⟨rfl, rfl⟩) (by assumption) ?_)); simp only [Act.put, List.setIfInBounds_toArray, List.set_cons_zero, List.set_cons_succ]
    have HP := Lib.hid (many_any s (mn + u) w4 (by omega) (by omega) (by omega))
    refine wpAnyH_ready (rs := [18]) (by kernel_rfl) (by simp) ?_
    refine AllReadyH.cons rfl (fun K hK => ?_) AllReadyH.nil
    go_simp
    refine HP.out.mono ?_
    rintro e w5 ⟨t, rfl, ht, rfl⟩
    have ht2 : t.size ≤ 1000 := by rw [ht, hs7]; omega
    clear HP hHeld ht
    refine hK.out _ _ ?_ (fun hHeld => ?_)
    · exact ⟨(c6_cells HF.s).2.1, (c6_cells HF.s).2.2.1⟩
    clear hK K
    (first
      | (refine held_take (i := 19) (v := ?_) rfl (by kernel_rfl) (by kernel_rfl) (by kernel_rfl) (fun _ _ _ h => h) (Or.inl ⟨rfl, ?_⟩) (by assumption) ?_; rotate_left; (intro X hSw; (try dsimp only at hSw); (go_simp <;> with_reducible rfl)))
      | (refine held_take (i := 19) (v := undef) rfl (by kernel_rfl) (by kernel_rfl) (by kernel_rfl) (fun _ _ _ h => h) (Or.inr ⟨rfl, rfl⟩) (by assumption) ?_)); simp only [Act.put, List.setIfInBounds_toArray, List.set_cons_zero, List.set_cons_succ]
    refine wpAnyH_ready (rs := [20]) (by kernel_rfl) (by simp) ?_
    refine AllReadyH.cons rfl (fun K hK => ?_) AllReadyH.nil
    obtain ⟨r0, r1, r2, r3, r4⟩ := c5_cells HF.r
    have f0 := HF.r.frozen 0
    have f1 := HF.r.frozen 1
    have f2 := HF.r.frozen 2
    have f3 := HF.r.frozen 3
    have f4 := HF.r.frozen 4
    have rl := HF.r.lt
    go_simp
    obtain ⟨q0, q1, q2, q3, q4⟩ := c5_cells (five_cells HF.r rfl 4 false t none none 0 0 0 0)
    simp only [five] at q0 q1 q2 q3 q4
    have hs5 : Own (five w4 (w.heap.size + 1) (.int .i64 4) (.bool false) (.string t) (.slice none 0 0) (.slice none 0 0)) w.heap.size 72 (c6 k mn mx A ns.length ca M ms.length ma KA kids.length kc) := (five_other _ _ _ _ _ _ (by omega)).trans HF.s
    clear hHeld
    refine hK.out _ _ ?_ (fun hHeld => ?_)
    · exact ⟨(c6_cells hs5).2.1, (c6_cells hs5).2.2.1⟩
    clear hK K
    refine wpAnyH_done (by kernel_rfl) ?_ _
    go_wp2
    exact bodyPost_ret (v := .agg (c5 4 false t none 0 0 none 0 0).toArray) (by simp [results, Tryd.results40, go_sem, q0, q1, q2, q3, q4, c5]) rfl (HF.leaf (by omega) 4 false t ht2)
  have q4' : (k == 4) = false := by simp [k4]
  by_cases k8 : k = 8
  · have q8' : (k == 8) = true := by simp [k8]
    have hnn : 0 < ns.length := HKC.out.2.2.2 k8
    clear k1 k2 k3 k4 k8
    have HROW : Hid (∀ i, i < ns.length → ∃ b off, A = some ⟨b, off, none⟩ ∧ ∀ w', w.grownBy w' (some g) → w'.cell? ⟨b, off + i, none⟩ = (strs ns)[i]?) := by
      generalize hcs : c6 k mn mx A ns.length ca M ms.length ma KA kids.length kc = cs at HSC
      generalize hp : Sc.mk k mn mx ns ms kids = p at HSC
      cases HSC.out with
      | mk k' mn' mx' ns' ms' kids' A' M' K' ca' ma' kc' kb ko css hA hM lA lM eA eM hK hl hc hk =>
        injection hp with _ _ _ e1 e2 e3
        subst e1 e2 e3
        simp only [c6, List.cons.injEq, Value.slice.injEq, and_true, true_and] at hcs
        obtain ⟨_, _, _, ⟨rfl, _⟩, _⟩ := hcs
        intro i hi
        obtain ⟨b, off, e, hcell⟩ := hA.at_ (k := i) (by simpa using hi)
        refine ⟨b, off, e, fun w' hg => ?_⟩
        rw [World.cell?_of_block (w := w) (hg.block b (cell_lt hcell) (fun e' => by injection e' with e'; exact lA (by rintro rfl; simp at hi) _ e e')), hcell]
        exact (List.getElem?_eq_getElem _).symm
    obtain ⟨c0, c1, c2, c3, c4, c5'⟩ := c6_cells HF.s
    clear c0 c1 c2 c4 c5'
    go_wp2
    refine wp_region_held_drew (S := (fun X => X.cell? ⟨w.heap.size, 3, none⟩ = some (.slice A ns.length ca))) (by kernel_rfl) ?_ (fun hHeld => ?_)
    · exact c3
    clear c3 a0
    (first
      | (refine held_take (i := 0) (v := ?_) rfl (by kernel_rfl) (by kernel_rfl) (by kernel_rfl) (fun _ _ _ h => h) (Or.inl ⟨rfl, ?_⟩) (by assumption) ?_; rotate_left; (intro X hSw; (try dsimp only at hSw); (go_simp <;> with_reducible rfl)))
      | (refine held_take (i := 0) (v := undef) rfl (by kernel_rfl) (by kernel_rfl) (by kernel_rfl) (fun _ _ _ h => h) (Or.inr ⟨rfl, rfl⟩) (by assumption) ?_)); simp only [Act.put, List.setIfInBounds_toArray, List.set_cons_zero, List.set_cons_succ]
    (first
      | (refine held_take (i := 1) (v := ?_) rfl (by kernel_rfl) (by kernel_rfl) (by kernel_rfl) (fun _ _ _ h => h) (Or.inl ⟨rfl, ?_⟩) (by assumption) ?_; rotate_left; (intro X hSw; (try dsimp only at hSw); (go_simp <;> with_reducible rfl)))
      | (refine held_take (i := 1) (v := undef) rfl (by kernel_rfl) (by kernel_rfl) (by kernel_rfl) (fun _ _ _ h => h) (Or.inr ⟨rfl, rfl⟩) (by assumption) ?_)); simp only [Act.put, List.setIfInBounds_toArray, List.set_cons_zero, List.set_cons_succ]
    (first
      | (refine held_take (i := 2) (v := ?_) rfl (by kernel_rfl) (by kernel_rfl) (by kernel_rfl) (fun _ _ _ h => h) (Or.inl ⟨rfl, ?_⟩) (by assumption) ?_; rotate_left; (intro X hSw; (try dsimp only at hSw); (go_simp <;> with_reducible rfl)))
      | (refine held_take (i := 2) (v := undef) rfl (by kernel_rfl) (by kernel_rfl) (by kernel_rfl) (fun _ _ _ h => h) (Or.inr ⟨rfl, rfl⟩) (by assumption) ?_)); simp only [Act.put, List.setIfInBounds_toArray, List.set_cons_zero, List.set_cons_succ]
    (first
      | (refine held_take (i := 3) (v := ?_) rfl (by kernel_rfl) (by kernel_rfl) (by kernel_rfl) (fun _ _ _ h => h) (Or.inl ⟨rfl, ?_⟩) (by assumption) ?_; rotate_left; (intro X hSw; (try dsimp only at hSw); (go_simp <;> with_reducible rfl)))
      | (refine held_take (i := 3) (v := undef) rfl (by kernel_rfl) (by kernel_rfl) (by kernel_rfl) (fun _ _ _ h => h) (Or.inr ⟨rfl, rfl⟩) (by assumption) ?_)); simp only [Act.put, List.setIfInBounds_toArray, List.set_cons_zero, List.set_cons_succ]
    (first
      | (refine held_take (i := 4) (v := ?_) rfl (by kernel_rfl) (by kernel_rfl) (by kernel_rfl) (fun _ _ _ h => h) (Or.inl ⟨rfl, ?_⟩) (by assumption) ?_; rotate_left; (intro X hSw; (try dsimp only at hSw); (go_simp <;> with_reducible rfl)))
      | (refine held_take (i := 4) (v := undef) rfl (by kernel_rfl) (by kernel_rfl) (by kernel_rfl) (fun _ _ _ h => h) (Or.inr ⟨rfl, rfl⟩) (by assumption) ?_)); simp only [Act.put, List.setIfInBounds_toArray, List.set_cons_zero, List.set_cons_succ]
    (first
      | (refine held_take (i := 5) (v := ?_) rfl (by kernel_rfl) (by kernel_rfl) (by kernel_rfl) (fun _ _ _ h => h) (Or.inl ⟨rfl, ?_⟩) (by assumption) ?_; rotate_left; (intro X hSw; (try dsimp only at hSw); (go_simp <;> with_reducible rfl)))
      | (refine held_take (i := 5) (v := undef) rfl (by kernel_rfl) (by kernel_rfl) (by kernel_rfl) (fun _ _ _ h => h) (Or.inr ⟨rfl, rfl⟩) (by assumption) ?_)); simp only [Act.put, List.setIfInBounds_toArray, List.set_cons_zero, List.set_cons_succ]
    replace HF := HF.drew
    have HP := Lib.hid (pick_any B g N ns.length _ HF.rd (by omega) (by omega) (by omega))
    refine wpAnyH_ready (rs := [6]) (by kernel_rfl) (by simp) ?_
    refine AllReadyH.cons rfl (fun K hK => ?_) AllReadyH.nil
    go_simp
    refine HP.out.mono ?_
    rintro e w2 ⟨v, rfl, hv0, hv1, hrd2, hg2⟩
    have hvn : v.toNat < ns.length := by rcases hv1 with h | h <;> omega
    have hvi : v < (ns.length : Int) := by omega
    replace HF := HF.touch hg2 hrd2
    obtain ⟨b, off, rfl, hcell⟩ := HROW.out v.toNat hvn
    have xs := hcell w2 HF.fr
    rw [List.getElem?_eq_getElem (by simpa using hvn), strs_get] at xs
    have HM := Lib.hid (HNS.out _ (List.getElem_mem hvn))
    generalize ns[v.toNat] = s at *
    clear hrd2 hg2 hv1 HP hHeld hcell HROW
    refine hK.out _ _ ?_ (fun hHeld => ?_)
    · exact (c6_cells HF.s).2.2.2.1
    clear hK K
    (first
      | (refine held_take (i := 7) (v := ?_) rfl (by kernel_rfl) (by kernel_rfl) (by kernel_rfl) (fun _ _ _ h => h) (Or.inl ⟨rfl, ?_⟩) (by assumption) ?_; rotate_left; (intro X hSw; (try dsimp only at hSw); (go_simp <;> with_reducible rfl)))
      | (refine held_take (i := 7) (v := undef) rfl (by kernel_rfl) (by kernel_rfl) (by kernel_rfl) (fun _ _ _ h => h) (Or.inr ⟨rfl, rfl⟩) (by assumption) ?_)); simp only [Act.put, List.setIfInBounds_toArray, List.set_cons_zero, List.set_cons_succ]
    refine wpAnyH_ready (rs := [8]) (by kernel_rfl) (by simp) ?_
    refine AllReadyH.cons rfl (fun K hK => ?_) AllReadyH.nil
    go_simp
    refine hK.out _ _ ?_ (fun hHeld => ?_)
    · exact hHeld
    clear hK K
    (first
      | (refine held_take (i := 9) (v := ?_) rfl (by kernel_rfl) (by kernel_rfl) (by kernel_rfl) (fun _ _ _ h => h) (Or.inl ⟨rfl, ?_⟩) (by assumption) ?_; rotate_left; (intro X hSw; (try dsimp only at hSw); (go_simp <;> with_reducible rfl)))
      | (refine held_take (i := 9) (v := undef) rfl (by kernel_rfl) (by kernel_rfl) (by kernel_rfl) (fun _ _ _ h => h) (Or.inr ⟨rfl, rfl⟩) (by assumption) ?_)); simp only [Act.put, List.setIfInBounds_toArray, List.set_cons_zero, List.set_cons_succ]
    refine wpAnyH_ready (rs := [10]) (by kernel_rfl) (by simp) ?_
    refine AllReadyH.cons rfl (fun K hK => ?_) AllReadyH.nil
    obtain ⟨r0, r1, r2, r3, r4⟩ := c5_cells HF.r
    have f0 := HF.r.frozen 0
    have f1 := HF.r.frozen 1
    have f2 := HF.r.frozen 2
    have f3 := HF.r.frozen 3
    have f4 := HF.r.frozen 4
    have rl := HF.r.lt
    go_simp
    obtain ⟨q0, q1, q2, q3, q4⟩ := c5_cells (five_cells HF.r rfl 4 false s none none 0 0 0 0)
    simp only [five] at q0 q1 q2 q3 q4
    have hs5 : Own (five w2 (w.heap.size + 1) (.int .i64 4) (.bool false) (.string s) (.slice none 0 0) (.slice none 0 0)) w.heap.size 72 (c6 k mn mx (some ⟨b, off, none⟩) ns.length ca M ms.length ma KA kids.length kc) := (five_other _ _ _ _ _ _ (by omega)).trans HF.s
    clear hHeld
    refine hK.out _ _ ?_ (fun hHeld => ?_)
    · exact (c6_cells hs5).2.2.2.1
    clear hK K
    refine wpAnyH_done (by kernel_rfl) ?_ _
    go_wp2
    exact bodyPost_ret (v := .agg (c5 4 false s none 0 0 none 0 0).toArray) (by simp [results, Tryd.results40, go_sem, q0, q1, q2, q3, q4, c5]) rfl (HF.leaf (by omega) 4 false s (by have := HM.out; omega))
  have q8' : (k == 8) = false := by simp [k8]
  by_cases k7 : k = 7
  · have q7' : (k == 7) = true := by simp [k7]
    have hkn : 0 < kids.length := HKC.out.2.2.1 k7
    clear k1 k2 k3 k4 k8 k7
    obtain ⟨c0, c1, c2, c3, c4, c5'⟩ := c6_cells HF.s
    clear c0 c1 c2 c3 c4
    go_wp2
    refine wp_region_held_drew (S := (fun X => X.cell? ⟨w.heap.size, 5, none⟩ = some (.slice KA kids.length kc))) (by kernel_rfl) ?_ (fun hHeld => ?_)
    · exact c5'
    clear c5' a0
    (first
      | (refine held_take (i := 0) (v := ?_) rfl (by kernel_rfl) (by kernel_rfl) (by kernel_rfl) (fun _ _ _ h => h) (Or.inl ⟨rfl, ?_⟩) (by assumption) ?_; rotate_left; (intro X hSw; (try dsimp only at hSw); (go_simp <;> with_reducible rfl)))
      | (refine held_take (i := 0) (v := undef) rfl (by kernel_rfl) (by kernel_rfl) (by kernel_rfl) (fun _ _ _ h => h) (Or.inr ⟨rfl, rfl⟩) (by assumption) ?_)); simp only [Act.put, List.setIfInBounds_toArray, List.set_cons_zero, List.set_cons_succ]
    (first
      | (refine held_take (i := 1) (v := ?_) rfl (by kernel_rfl) (by kernel_rfl) (by kernel_rfl) (fun _ _ _ h => h) (Or.inl ⟨rfl, ?_⟩) (by assumption) ?_; rotate_left; (intro X hSw; (try dsimp only at hSw); (go_simp <;> with_reducible rfl)))
      | (refine held_take (i := 1) (v := undef) rfl (by kernel_rfl) (by kernel_rfl) (by kernel_rfl) (fun _ _ _ h => h) (Or.inr ⟨rfl, rfl⟩) (by assumption) ?_)); simp only [Act.put, List.setIfInBounds_toArray, List.set_cons_zero, List.set_cons_succ]
    (first
      | (refine held_take (i := 2) (v := ?_) rfl (by kernel_rfl) (by kernel_rfl) (by kernel_rfl) (fun _ _ _ h => h) (Or.inl ⟨rfl, ?_⟩) (by assumption) ?_; rotate_left; (intro X hSw; (try dsimp only at hSw); (go_simp <;> with_reducible rfl)))
      | (refine held_take (i := 2) (v := undef) rfl (by kernel_rfl) (by kernel_rfl) (by kernel_rfl) (fun _ _ _ h => h) (Or.inr ⟨rfl, rfl⟩) (by assumption) ?_)); simp only [Act.put, List.setIfInBounds_toArray, List.set_cons_zero, List.set_cons_succ]
    (first
      | (refine held_take (i := 3) (v := ?_) rfl (by kernel_rfl) (by kernel_rfl) (by kernel_rfl) (fun _ _ _ h => h) (Or.inl ⟨rfl, ?_⟩) (by assumption) ?_; rotate_left; (intro X hSw; (try dsimp only at hSw); (go_simp <;> with_reducible rfl)))
      | (refine held_take (i := 3) (v := undef) rfl (by kernel_rfl) (by kernel_rfl) (by kernel_rfl) (fun _ _ _ h => h) (Or.inr ⟨rfl, rfl⟩) (by assumption) ?_)); simp only [Act.put, List.setIfInBounds_toArray, List.set_cons_zero, List.set_cons_succ]
    (first
      | (refine held_take (i := 4) (v := ?_) rfl (by kernel_rfl) (by kernel_rfl) (by kernel_rfl) (fun _ _ _ h => h) (Or.inl ⟨rfl, ?_⟩) (by assumption) ?_; rotate_left; (intro X hSw; (try dsimp only at hSw); (go_simp <;> with_reducible rfl)))
      | (refine held_take (i := 4) (v := undef) rfl (by kernel_rfl) (by kernel_rfl) (by kernel_rfl) (fun _ _ _ h => h) (Or.inr ⟨rfl, rfl⟩) (by assumption) ?_)); simp only [Act.put, List.setIfInBounds_toArray, List.set_cons_zero, List.set_cons_succ]
    (first
      | (refine held_take (i := 5) (v := ?_) rfl (by kernel_rfl) (by kernel_rfl) (by kernel_rfl) (fun _ _ _ h => h) (Or.inl ⟨rfl, ?_⟩) (by assumption) ?_; rotate_left; (intro X hSw; (try dsimp only at hSw); (go_simp <;> with_reducible rfl)))
      | (refine held_take (i := 5) (v := undef) rfl (by kernel_rfl) (by kernel_rfl) (by kernel_rfl) (fun _ _ _ h => h) (Or.inr ⟨rfl, rfl⟩) (by assumption) ?_)); simp only [Act.put, List.setIfInBounds_toArray, List.set_cons_zero, List.set_cons_succ]
    (first
      | (refine held_take (i := 6) (v := ?_) rfl (by kernel_rfl) (by kernel_rfl) (by kernel_rfl) (fun _ _ _ h => h) (Or.inl ⟨rfl, ?_⟩) (by assumption) ?_; rotate_left; (intro X hSw; (try dsimp only at hSw); (go_simp <;> with_reducible rfl)))
      | (refine held_take (i := 6) (v := undef) rfl (by kernel_rfl) (by kernel_rfl) (by kernel_rfl) (fun _ _ _ h => h) (Or.inr ⟨rfl, rfl⟩) (by assumption) ?_)); simp only [Act.put, List.setIfInBounds_toArray, List.set_cons_zero, List.set_cons_succ]
    replace HF := HF.drew
    have HP := Lib.hid (pick_any B g N kids.length _ HF.rd (by omega) (by omega) (by omega))
    refine wpAnyH_ready (rs := [7]) (by kernel_rfl) (by simp) ?_
    refine AllReadyH.cons rfl (fun K hK => ?_) AllReadyH.nil
    go_simp
    refine HP.out.mono ?_
    rintro e w2 ⟨v, rfl, hv0, hv1, hrd2, hg2⟩
    have hvn : v.toNat < kids.length := by rcases hv1 with h | h <;> omega
    have hvi : v < (kids.length : Int) := by omega
    replace HF := HF.touch hg2 hrd2
    obtain ⟨b, off, k', mn', mx', ns', ms', kids', A', M', K', ca', ma', kc', rfl, hki, hall⟩ := HSC.out.kid hvn
    obtain ⟨hsc', x0, x1, x2, x3, x4, x5⟩ := hall w2 HF.fr
    have hok' := HKS.out _ (List.getElem_mem hvn)
    rw [hki] at hok'
    have HC := Lib.hid (HIH.out k' mn' mx' ns' ms' kids' A' M' K' ca' ma' kc' B g (N + 1) w2 hok' HF.rd (by have := HF.r.lt; have := HF.hB; omega) (by omega) hsc')
    simp only [c6] at HC
    clear hrd2 hg2 hv1 HP hHeld hall hki hok' hsc'
    refine hK.out _ _ ?_ (fun hHeld => ?_)
    · exact (c6_cells HF.s).2.2.2.2.2
    clear hK K
    (first
      | (refine held_take (i := 8) (v := ?_) rfl (by kernel_rfl) (by kernel_rfl) (by kernel_rfl) (fun _ _ _ h => h) (Or.inl ⟨rfl, ?_⟩) (by assumption) ?_; rotate_left; (intro X hSw; (try dsimp only at hSw); (go_simp <;> with_reducible rfl)))
      | (refine held_take (i := 8) (v := undef) rfl (by kernel_rfl) (by kernel_rfl) (by kernel_rfl) (fun _ _ _ h => h) (Or.inr ⟨rfl, rfl⟩) (by assumption) ?_)); simp only [Act.put, List.setIfInBounds_toArray, List.set_cons_zero, List.set_cons_succ]
    refine wpAnyH_ready (rs := [9]) (by kernel_rfl) (by simp) ?_
    refine AllReadyH.cons rfl (fun K hK => ?_) AllReadyH.nil
    go_simp
    refine hK.out _ _ ?_ (fun hHeld => ?_)
    · exact hHeld
    clear hK K
    clear x0 x1 x2 x3 x4 x5
    refine wpAnyH_ready (rs := [10]) (by kernel_rfl) (by simp) ?_
    refine AllReadyH.cons rfl (fun K hK => ?_) AllReadyH.nil
    go_simp
    refine HC.out.mono ?_
    rintro e w3 ⟨jk, jf, jt, jns, jkids, jA, jK, jca, jkc, rfl, jT, jl, hrd3, hg3⟩
    have hsz2 := HF.r.lt
    replace HF := HF.touch hg3 hrd3
    have HJ := Lib.hid (And.intro jT jl)
    clear hrd3 hg3 HC hHeld jT jl
    refine hK.out _ _ ?_ (fun hHeld => ?_)
    · exact (c6_cells HF.s).2.2.2.2.2
    clear hK K
    refine wpAnyH_ready (rs := [11]) (by kernel_rfl) (by simp) ?_
    refine AllReadyH.cons rfl (fun K hK => ?_) AllReadyH.nil
    obtain ⟨r0, r1, r2, r3, r4⟩ := c5_cells HF.r
    have f0 := HF.r.frozen 0
    have f1 := HF.r.frozen 1
    have f2 := HF.r.frozen 2
    have f3 := HF.r.frozen 3
    have f4 := HF.r.frozen 4
    have rl := HF.r.lt
    simp only [c5]
    go_simp
    obtain ⟨q0, q1, q2, q3, q4⟩ := c5_cells (five_cells HF.r rfl jk jf jt jA jK jns.length jca jkids.length jkc)
    simp only [five] at q0 q1 q2 q3 q4
    have hs5 : Own (five w3 (w.heap.size + 1) (.int .i64 jk) (.bool jf) (.string jt) (.slice jA jns.length jca) (.slice jK jkids.length jkc)) w.heap.size 72 (c6 k mn mx A ns.length ca M ms.length ma (some ⟨b, off, none⟩) kids.length kc) := (five_other _ _ _ _ _ _ (by omega)).trans HF.s
    clear hHeld
    refine hK.out _ _ ?_ (fun hHeld => ?_)
    · exact (c6_cells hs5).2.2.2.2.2
    clear hK K
    refine wpAnyH_done (by kernel_rfl) ?_ _
    go_wp2
    exact bodyPost_ret (v := .agg (c5 jk jf jt jA jns.length jca jK jkids.length jkc).toArray) (by simp [results, Tryd.results40, go_sem, q0, q1, q2, q3, q4, c5]) rfl
      ⟨jk, jf, jt, jns, jkids, jA, jK, jca, jkc, rfl, (HJ.out.1.keep fun z hz _ => five_other _ _ _ _ _ z (by omega)).low (by omega), HJ.out.2, (HF.rd.keep fun z hz => five_other _ _ _ _ _ z (by have := HF.hB; omega)).mono (Nat.le_refl _) (by omega), five_grown HF.fr (by omega) _ _ _ _ _⟩
  have q7' : (k == 7) = false := by simp [k7]
  have hk56 : k = 5 ∨ k = 6 := by omega
  clear k1 k2 k3 k4 k8 k7
  have hg0 := HF.g_lt
  have hsz := HF.r.lt
  have HL := JsCS.start HF.rd (only_of_below (Below.refl w1.heap.size w1) (Nat.le_refl _) (some g)) (by have := HF.hB; omega) (c5 k false ⟨#[]⟩ none 0 0 none 0 0)
  simp only [c5, List.length_nil] at HL
  go_upto_region 15 with fail
  clear a0
  generalize w1.alloc (.cells #[.int .i64 k, .bool false, .string ⟨#[]⟩, .slice none 0 0, .slice none 0 0] 26) = w2 at *
  have HF0 := Lib.hid HF
  replace HF := HF.touch HL.fr HL.rd
  obtain ⟨c0, c1, c2, c3, c4, c5'⟩ := c6_cells HF.s
  clear c0 c3 c4 c5'
  refine wp_region_held_drew (S := (fun X => X.cell? ⟨w.heap.size, 1, none⟩ = some (.int .i64 mn) ∧ X.cell? ⟨w.heap.size, 2, none⟩ = some (.int .i64 mx))) (by kernel_rfl) ?_ (fun hHeld => ?_)
  · exact ⟨c1, c2⟩
  clear c1 c2
  have hw1 := IntWalk.i64_in (mx - mn) (by omega)
  have hw2 := IntWalk.i64_in (mx - mn + 1) (by omega)
  (first
    | (refine held_take (i := 0) (v := ?_) rfl (by kernel_rfl) (by kernel_rfl) (by kernel_rfl) (fun _ _ _ h => h) (Or.inl ⟨rfl, ?_⟩) (by assumption) ?_; rotate_left; (intro X hSw; (try dsimp only at hSw); (go_simp <;> with_reducible rfl)))
    | (refine held_take (i := 0) (v := undef) rfl (by kernel_rfl) (by kernel_rfl) (by kernel_rfl) (fun _ _ _ h => h) (Or.inr ⟨rfl, rfl⟩) (by assumption) ?_)); simp only [Act.put, List.setIfInBounds_toArray, List.set_cons_zero, List.set_cons_succ]
  (first
    | (refine held_take (i := 1) (v := ?_) rfl (by kernel_rfl) (by kernel_rfl) (by kernel_rfl) (fun _ _ _ h => h) (Or.inl ⟨rfl, ?_⟩) (by assumption) ?_; rotate_left; (intro X hSw; (try dsimp only at hSw); (go_simp <;> with_reducible rfl)))
    | (refine held_take (i := 1) (v := undef) rfl (by kernel_rfl) (by kernel_rfl) (by kernel_rfl) (fun _ _ _ h => h) (Or.inr ⟨rfl, rfl⟩) (by assumption) ?_)); simp only [Act.put, List.setIfInBounds_toArray, List.set_cons_zero, List.set_cons_succ]
  (first
    | (refine held_take (i := 2) (v := ?_) rfl (by kernel_rfl) (by kernel_rfl) (by kernel_rfl) (fun _ _ _ h => h) (Or.inl ⟨rfl, ?_⟩) (by assumption) ?_; rotate_left; (intro X hSw; (try dsimp only at hSw); (go_simp <;> with_reducible rfl)))
    | (refine held_take (i := 2) (v := undef) rfl (by kernel_rfl) (by kernel_rfl) (by kernel_rfl) (fun _ _ _ h => h) (Or.inr ⟨rfl, rfl⟩) (by assumption) ?_)); simp only [Act.put, List.setIfInBounds_toArray, List.set_cons_zero, List.set_cons_succ]
  (first
    | (refine held_take (i := 3) (v := ?_) rfl (by kernel_rfl) (by kernel_rfl) (by kernel_rfl) (fun _ _ _ h => h) (Or.inl ⟨rfl, ?_⟩) (by assumption) ?_; rotate_left; (intro X hSw; (try dsimp only at hSw); (go_simp <;> with_reducible rfl)))
    | (refine held_take (i := 3) (v := undef) rfl (by kernel_rfl) (by kernel_rfl) (by kernel_rfl) (fun _ _ _ h => h) (Or.inr ⟨rfl, rfl⟩) (by assumption) ?_)); simp only [Act.put, List.setIfInBounds_toArray, List.set_cons_zero, List.set_cons_succ]
  (first
    | (refine held_take (i := 4) (v := ?_) rfl (by kernel_rfl) (by kernel_rfl) (by kernel_rfl) (fun _ _ _ h => h) (Or.inl ⟨rfl, ?_⟩) (by assumption) ?_; rotate_left; (intro X hSw; (try dsimp only at hSw); (go_simp <;> with_reducible rfl)))
    | (refine held_take (i := 4) (v := undef) rfl (by kernel_rfl) (by kernel_rfl) (by kernel_rfl) (fun _ _ _ h => h) (Or.inr ⟨rfl, rfl⟩) (by assumption) ?_)); simp only [Act.put, List.setIfInBounds_toArray, List.set_cons_zero, List.set_cons_succ]
  (first
    | (refine held_take (i := 5) (v := ?_) rfl (by kernel_rfl) (by kernel_rfl) (by kernel_rfl) (fun _ _ _ h => h) (Or.inl ⟨rfl, ?_⟩) (by assumption) ?_; rotate_left; (intro X hSw; (try dsimp only at hSw); (go_simp <;> with_reducible rfl)))
    | (refine held_take (i := 5) (v := undef) rfl (by kernel_rfl) (by kernel_rfl) (by kernel_rfl) (fun _ _ _ h => h) (Or.inr ⟨rfl, rfl⟩) (by assumption) ?_)); simp only [Act.put, List.setIfInBounds_toArray, List.set_cons_zero, List.set_cons_succ]
  (first
    | (refine held_take (i := 6) (v := ?_) rfl (by kernel_rfl) (by kernel_rfl) (by kernel_rfl) (fun _ _ _ h => h) (Or.inl ⟨rfl, ?_⟩) (by assumption) ?_; rotate_left; (intro X hSw; (try dsimp only at hSw); (go_simp <;> with_reducible rfl)))
    | (refine held_take (i := 6) (v := undef) rfl (by kernel_rfl) (by kernel_rfl) (by kernel_rfl) (fun _ _ _ h => h) (Or.inr ⟨rfl, rfl⟩) (by assumption) ?_)); simp only [Act.put, List.setIfInBounds_toArray, List.set_cons_zero, List.set_cons_succ]
  (first
    | (refine held_take (i := 7) (v := ?_) rfl (by kernel_rfl) (by kernel_rfl) (by kernel_rfl) (fun _ _ _ h => h) (Or.inl ⟨rfl, ?_⟩) (by assumption) ?_; rotate_left; (intro X hSw; (try dsimp only at hSw); (go_simp <;> with_reducible rfl)))
    | (refine held_take (i := 7) (v := undef) rfl (by kernel_rfl) (by kernel_rfl) (by kernel_rfl) (fun _ _ _ h => h) (Or.inr ⟨rfl, rfl⟩) (by assumption) ?_)); simp only [Act.put, List.setIfInBounds_toArray, List.set_cons_zero, List.set_cons_succ]
  (first
    | (refine held_take (i := 8) (v := ?_) rfl (by kernel_rfl) (by kernel_rfl) (by kernel_rfl) (fun _ _ _ h => h) (Or.inl ⟨rfl, ?_⟩) (by assumption) ?_; rotate_left; (intro X hSw; (try dsimp only at hSw); (go_simp <;> with_reducible rfl)))
    | (refine held_take (i := 8) (v := undef) rfl (by kernel_rfl) (by kernel_rfl) (by kernel_rfl) (fun _ _ _ h => h) (Or.inr ⟨rfl, rfl⟩) (by assumption) ?_)); simp only [Act.put, List.setIfInBounds_toArray, List.set_cons_zero, List.set_cons_succ]
  (first
    | (refine held_take (i := 9) (v := ?_) rfl (by kernel_rfl) (by kernel_rfl) (by kernel_rfl) (fun _ _ _ h => h) (Or.inl ⟨rfl, ?_⟩) (by assumption) ?_; rotate_left; (intro X hSw; (try dsimp only at hSw); (go_simp <;> with_reducible rfl)))
    | (refine held_take (i := 9) (v := undef) rfl (by kernel_rfl) (by kernel_rfl) (by kernel_rfl) (fun _ _ _ h => h) (Or.inr ⟨rfl, rfl⟩) (by assumption) ?_)); simp only [Act.put, List.setIfInBounds_toArray, List.set_cons_zero, List.set_cons_succ]
  replace HL := HL.drew
  have HP := Lib.hid (pick_any B g N 9 _ HL.rd (by omega) (by omega) (by omega))
  refine wpAnyH_ready (rs := [10]) (by kernel_rfl) (by simp) ?_
  refine AllReadyH.cons rfl (fun K hK => ?_) AllReadyH.nil
  go_simp
  refine HP.out.mono ?_
  rintro e w3 ⟨v, rfl, hv0, hv1, hrd2, hg2⟩
  have hv2 : v ≤ 8 := by rcases hv1 with h | h <;> omega
  replace HL := HL.touch hg2 hrd2
  replace HF := HF0.out.touch HL.fr HL.rd
  clear hrd2 hg2 hv1 HP hHeld
  refine hK.out _ _ ?_ (fun hHeld => ?_)
  · exact ⟨(c6_cells HF.s).2.1, (c6_cells HF.s).2.2.1⟩
  clear hK K
  have hq0 : 0 ≤ v / 8 := Int.ediv_nonneg hv0 (by omega)
  have hq1 : v / 8 ≤ 1 := by omega
  have hq : IntKind.i64.wrap (v.tdiv 8) = v / 8 := by rw [Int.tdiv_eq_ediv_of_nonneg hv0]; exact IntWalk.i64_in _ (by omega)
  have HQ := Lib.hid hq
  clear hq
  (first
    | (refine held_take (i := 11) (v := ?_) rfl (by kernel_rfl) (by kernel_rfl) (by kernel_rfl) (fun _ _ _ h => h) (Or.inl ⟨rfl, ?_⟩) (by assumption) ?_; rotate_left; (intro X hSw; (try dsimp only at hSw); (go_simp <;> with_reducible rfl)))
    | (refine held_take (i := 11) (v := undef) rfl (by kernel_rfl) (by kernel_rfl) (by kernel_rfl) (fun _ _ _ h => h) (Or.inr ⟨rfl, rfl⟩) (by assumption) ?_)); simp only [Act.put, List.setIfInBounds_toArray, List.set_cons_zero, List.set_cons_succ]
  rw [HQ.out]
  clear HQ
  generalize v / 8 = q at *
  have hw3 := IntWalk.i64_in (mx - mn + 1 + q) (by omega)
  (first
    | (refine held_take (i := 12) (v := ?_) rfl (by kernel_rfl) (by kernel_rfl) (by kernel_rfl) (fun _ _ _ h => h) (Or.inl ⟨rfl, ?_⟩) (by assumption) ?_; rotate_left; (intro X hSw; (try dsimp only at hSw); (go_simp <;> with_reducible rfl)))
    | (refine held_take (i := 12) (v := undef) rfl (by kernel_rfl) (by kernel_rfl) (by kernel_rfl) (fun _ _ _ h => h) (Or.inr ⟨rfl, rfl⟩) (by assumption) ?_)); simp only [Act.put, List.setIfInBounds_toArray, List.set_cons_zero, List.set_cons_succ]
  have HP := Lib.hid (pick_any B g (N + 1) (mx - mn + 1 + q) _ HL.rd (by omega) (by omega) (by omega))
  refine wpAnyH_ready (rs := [13]) (by kernel_rfl) (by simp) ?_
  refine AllReadyH.cons rfl (fun K hK => ?_) AllReadyH.nil
  go_simp
  refine HP.out.mono ?_
  rintro e w4 ⟨u, rfl, hu0, hu1, hrd2, hg2⟩
  have hu2 : u ≤ 3 := by rcases hu1 with h | h <;> omega
  replace HL := HL.touch hg2 hrd2
  replace HF := HF0.out.touch HL.fr HL.rd
  clear hrd2 hg2 hu1 HP hHeld hw3
  refine hK.out _ _ ?_ (fun hHeld => ?_)
  · exact ⟨(c6_cells HF.s).2.1, (c6_cells HF.s).2.2.1⟩
  clear hK K
  have hw4 := IntWalk.i64_in (mn + u) (by omega)
  (first
    | (refine held_take (i := 14) (v := ?_) rfl (by kernel_rfl) (by kernel_rfl) (by kernel_rfl) (fun _ _ _ h => h) (Or.inl ⟨rfl, ?_⟩) (by assumption) ?_; rotate_left; (intro X hSw; (try dsimp only at hSw); (go_simp <;> with_reducible rfl)))
    | (refine held_take (i := 14) (v := undef) rfl (by kernel_rfl) (by kernel_rfl) (by kernel_rfl) (fun _ _ _ h => h) (Or.inr ⟨rfl, rfl⟩) (by assumption) ?_)); simp only [Act.put, List.setIfInBounds_toArray, List.set_cons_zero, List.set_cons_succ]
  (first
    | (refine held_take (i := 15) (v := ?_) rfl (by kernel_rfl) (by kernel_rfl) (by kernel_rfl) (fun _ _ _ h => h) (Or.inl ⟨rfl, ?_⟩) (by assumption) ?_; rotate_left; (intro X hSw; (try dsimp only at hSw); (go_simp <;> with_reducible rfl)))
    | (refine held_take (i := 15) (v := undef) rfl (by kernel_rfl) (by kernel_rfl) (by kernel_rfl) (fun _ _ _ h => h) (Or.inr ⟨rfl, rfl⟩) (by assumption) ?_)); simp only [Act.put, List.setIfInBounds_toArray, List.set_cons_zero, List.set_cons_succ]
  refine wpAnyH_done (by kernel_rfl) ?_ _
  have hm5 : mn + u ≤ 5 := by omega
  have hm0 : 0 ≤ mn + u := by omega
  clear hHeld hw1 hw2 hw4 HF
  generalize mn + u = m at *
  by_cases k5 : k = 5
  · have q5' : (k == 5) = true := by simp [k5]
    have q6' : (k == 6) = false := by simp [k5]
    have hkn : 0 < kids.length := HKC.out.1 k5
    obtain ⟨b, off, k', mn', mx', ns', ms', kids', A', M', K', ca', ma', kc', rfl, hki, hall⟩ := HSC.out.kid hkn
    simp only [Nat.zero_mul, Nat.add_zero] at hall
    have HALL := Lib.hid hall
    have hok' := HKS.out _ (List.getElem_mem hkn)
    rw [hki] at hok'
    have HOK' := Lib.hid hok'
    have hkn' : (0 : Int) < (kids.length : Int) := by omega
    clear hall hki hok' k5 hk56
    go_wp2
    go_loopw [6] (fun c wr => ∃ (i : Nat) (js : List Js) (KJ : Option Addr) (kcj : Nat), c = .int .i64 i ∧ js.length + i ≤ 5 ∧ Hid (∀ p ∈ js, LimJ 1000 p) ∧ Hid (JsCS w1 B g (N + 2 + (5 - i) * costF n) w1.heap.size (w1.heap.size + 1) (c5 k false ⟨#[]⟩ none 0 0 KJ js.length kcj) [] js none KJ 0 kcj wr)) (fun c _ => (intOf c).toNat)
    case atStart => exact ⟨m.toNat, [], none, 0, by go_num, by simp; omega, by show ∀ _, _; simp, HL.mono (by omega)⟩
    case round =>
      clear HL
      obtain ⟨i, js, KJ, kcj, rfl, hil, HJS, HLI⟩ := hrel
      have HL := HLI.out
      clear HLI
      have HF := HF0.out.touch HL.fr HL.rd
      have d0 := (c6_cells HF.s).1
      have hjl : js.length ≤ 5 := by omega
      by_cases hi1 : 0 < i
      · have hi2 : (0 : Int) < (i : Int) := by omega
        have hci : (5 - i) * costF n + costF n ≤ 5 * costF n := by rw [← Nat.succ_mul]; exact Nat.mul_le_mul_right _ (by omega)
        have hcj : (5 - (i - 1)) * costF n = (5 - i) * costF n + costF n := by rw [show 5 - (i - 1) = (5 - i) + 1 by omega, Nat.succ_mul]
        have HCI := Lib.hid (And.intro hci hcj)
        generalize hNI : N + 2 + (5 - i) * costF n = NI at HL
        have HNI := Lib.hid hNI
        clear hci hcj hNI
        replace HF := HF0.out.touch HL.fr HL.rd
        go_wp2
        have hSS := HALL.out _ HF.fr
        refine wp_region_upto (S := (fun X => X.cell? ⟨w1.heap.size, 4, none⟩ = some (.slice KJ js.length kcj) ∧ X.cell? ⟨w.heap.size, 5, none⟩ = some (.slice (some ⟨b, off, none⟩) kids.length kc) ∧ X.cell? ⟨b, off, none⟩ = some (.int .i64 k') ∧ X.cell? ⟨b, off + 1, none⟩ = some (.int .i64 mn') ∧ X.cell? ⟨b, off + 2, none⟩ = some (.int .i64 mx') ∧ X.cell? ⟨b, off + 3, none⟩ = some (.slice A' ns'.length ca') ∧ X.cell? ⟨b, off + 4, none⟩ = some (.slice M' ms'.length ma') ∧ X.cell? ⟨b, off + 5, none⟩ = some (.slice K' kids'.length kc'))) (z := 11) (by kernel_rfl) ?_ (fun hHeld => ?_)
        · exact ⟨(c5_cells HL.p).2.2.2.2, (c6_cells HF.s).2.2.2.2.2, (HALL.out _ HF.fr).2⟩
        clear hSS d0
        (first
          | (refine upto_take (i := 0) (v := ?_) rfl rfl (by kernel_rfl) (by kernel_rfl) (by kernel_rfl) (by kernel_rfl) (fun _ _ _ h => h) (Or.inl ⟨rfl, ?_⟩) (by assumption) ?_; rotate_left; (intro X hSw; (try dsimp only at hSw); (go_simp <;> with_reducible rfl)))
          | (refine upto_take (i := 0) (v := undef) rfl rfl (by kernel_rfl) (by kernel_rfl) (by kernel_rfl) (by kernel_rfl) (fun _ _ _ h => h) (Or.inr ⟨rfl, rfl⟩) (by assumption) ?_)); simp only [Act.put, List.setIfInBounds_toArray, List.set_cons_zero, List.set_cons_succ]
        (first
          | (refine upto_take (i := 1) (v := ?_) rfl rfl (by kernel_rfl) (by kernel_rfl) (by kernel_rfl) (by kernel_rfl) (fun _ _ _ h => h) (Or.inl ⟨rfl, ?_⟩) (by assumption) ?_; rotate_left; (intro X hSw; (try dsimp only at hSw); (go_simp <;> with_reducible rfl)))
          | (refine upto_take (i := 1) (v := undef) rfl rfl (by kernel_rfl) (by kernel_rfl) (by kernel_rfl) (by kernel_rfl) (fun _ _ _ h => h) (Or.inr ⟨rfl, rfl⟩) (by assumption) ?_)); simp only [Act.put, List.setIfInBounds_toArray, List.set_cons_zero, List.set_cons_succ]
        (first
          | (refine upto_take (i := 2) (v := ?_) rfl rfl (by kernel_rfl) (by kernel_rfl) (by kernel_rfl) (by kernel_rfl) (fun _ _ _ h => h) (Or.inl ⟨rfl, ?_⟩) (by assumption) ?_; rotate_left; (intro X hSw; (try dsimp only at hSw); (go_simp <;> with_reducible rfl)))
          | (refine upto_take (i := 2) (v := undef) rfl rfl (by kernel_rfl) (by kernel_rfl) (by kernel_rfl) (by kernel_rfl) (fun _ _ _ h => h) (Or.inr ⟨rfl, rfl⟩) (by assumption) ?_)); simp only [Act.put, List.setIfInBounds_toArray, List.set_cons_zero, List.set_cons_succ]
        (first
          | (refine upto_take (i := 3) (v := ?_) rfl rfl (by kernel_rfl) (by kernel_rfl) (by kernel_rfl) (by kernel_rfl) (fun _ _ _ h => h) (Or.inl ⟨rfl, ?_⟩) (by assumption) ?_; rotate_left; (intro X hSw; (try dsimp only at hSw); (go_simp <;> with_reducible rfl)))
          | (refine upto_take (i := 3) (v := undef) rfl rfl (by kernel_rfl) (by kernel_rfl) (by kernel_rfl) (by kernel_rfl) (fun _ _ _ h => h) (Or.inr ⟨rfl, rfl⟩) (by assumption) ?_)); simp only [Act.put, List.setIfInBounds_toArray, List.set_cons_zero, List.set_cons_succ]
        (first
          | (refine upto_take (i := 4) (v := ?_) rfl rfl (by kernel_rfl) (by kernel_rfl) (by kernel_rfl) (by kernel_rfl) (fun _ _ _ h => h) (Or.inl ⟨rfl, ?_⟩) (by assumption) ?_; rotate_left; (intro X hSw; (try dsimp only at hSw); (go_simp <;> with_reducible rfl)))
          | (refine upto_take (i := 4) (v := undef) rfl rfl (by kernel_rfl) (by kernel_rfl) (by kernel_rfl) (by kernel_rfl) (fun _ _ _ h => h) (Or.inr ⟨rfl, rfl⟩) (by assumption) ?_)); simp only [Act.put, List.setIfInBounds_toArray, List.set_cons_zero, List.set_cons_succ]
        (first
          | (refine upto_take (i := 5) (v := ?_) rfl rfl (by kernel_rfl) (by kernel_rfl) (by kernel_rfl) (by kernel_rfl) (fun _ _ _ h => h) (Or.inl ⟨rfl, ?_⟩) (by assumption) ?_; rotate_left; (intro X hSw; (try dsimp only at hSw); (go_simp <;> with_reducible rfl)))
          | (refine upto_take (i := 5) (v := undef) rfl rfl (by kernel_rfl) (by kernel_rfl) (by kernel_rfl) (by kernel_rfl) (fun _ _ _ h => h) (Or.inr ⟨rfl, rfl⟩) (by assumption) ?_)); simp only [Act.put, List.setIfInBounds_toArray, List.set_cons_zero, List.set_cons_succ]
        (first
          | (refine upto_take (i := 6) (v := ?_) rfl rfl (by kernel_rfl) (by kernel_rfl) (by kernel_rfl) (by kernel_rfl) (fun _ _ _ h => h) (Or.inl ⟨rfl, ?_⟩) (by assumption) ?_; rotate_left; (intro X hSw; (try dsimp only at hSw); (go_simp <;> with_reducible rfl)))
          | (refine upto_take (i := 6) (v := undef) rfl rfl (by kernel_rfl) (by kernel_rfl) (by kernel_rfl) (by kernel_rfl) (fun _ _ _ h => h) (Or.inr ⟨rfl, rfl⟩) (by assumption) ?_)); simp only [Act.put, List.setIfInBounds_toArray, List.set_cons_zero, List.set_cons_succ]
        replace HL := HL.drew
        replace HF := HF0.out.touch HL.fr HL.rd
        have HC := Lib.hid (HIH.out k' mn' mx' ns' ms' kids' A' M' K' ca' ma' kc' B g NI wr.drew HOK'.out HL.rd (by have := HL.lt; have := HL.hB; have := HL.hP; omega) (by have := HCI.out.1; have := HNI.out; omega) (HALL.out _ HF.fr).1)
        simp only [c6] at HC
        have hs8 : w1.heap.size < wr.drew.heap.size := HL.lt
        clear hHeld
        refine upto_ready (i := 7) (by kernel_rfl) rfl (fun K hK => ?_)
        go_simp
        refine HC.out.mono ?_
        rintro e wq ⟨jk, jf, jt, jns, jkids, jA, jK, jca, jkc, rfl, jT, jl, hrd3, hg3⟩
        have HKB : Hid (∀ z, (Value.slice KJ js.length kcj).ownBlock = some z → z < wr.drew.heap.size) := fun z hz => (HL.t.ks.lt z hz).2
        replace HL := HL.touch hg3 hrd3
        replace HF := HF0.out.touch HL.fr HL.rd
        have HPC := Lib.hid (jT.toC jk jf jt)
        have HJL := Lib.hid jl
        have hsq := hg3.size
        clear jT jl hrd3 hg3 HC
        refine hK.out _ _ ?_ (fun hHeld => ?_)
        · exact ⟨(c5_cells HL.p).2.2.2.2, (c6_cells HF.s).2.2.2.2.2, (HALL.out _ HF.fr).2⟩
        clear hK K
        refine upto_ready (i := 8) (by kernel_rfl) rfl (fun K hK => ?_)
        simp only [c5]
        go_simp
        clear hHeld
        generalize hwb : wq.alloc (.cells #[.int .i64 jk, .bool jf, .string jt, .slice jA jns.length jca, .slice jK jkids.length jkc] 26) = wb
        replace HL : JsCS w1 B g (NI + costF n) w1.heap.size (w1.heap.size + 1) (c5 k false ⟨#[]⟩ none 0 0 KJ js.length kcj) [] js none KJ 0 kcj wb := by
          rw [← hwb]; exact HL.alloc _
        have HPW : Hid (JsC wb (fun z => w1.heap.size + 1 ≤ z ∧ (Value.slice KJ js.length kcj).ownBlock ≠ some z ∧ (Value.slice none ([] : List ByteArray).length 0).ownBlock ≠ some z) (c5 jk jf jt jA jns.length jca jK jkids.length jkc) (.mk jk jf jt jns jkids)) := by
          rw [← hwb]
          exact HPC.out.mv' fun z hz hl => ⟨Below.heap_alloc wq _ z hl, by omega, fun e => by have := HKB.out z e; omega, none_block⟩
        have HN : Hid (∀ j u, (c5 jk jf jt jA jns.length jca jK jkids.length jkc)[j]? = some u → wb.cell? ((⟨wq.heap.size, 0, none⟩ : Addr).add j) = some u) := by
          rw [← hwb]; exact cells_new wq (c5 jk jf jt jA jns.length jca jK jkids.length jkc) 26
        have swb : wq.heap.size + 1 = wb.heap.size := by rw [← hwb]; simp
        have swl : w1.heap.size < wq.heap.size := by omega
        have HON := Lib.hid HPC.out.ones
        clear HPC hwb
        replace HF := HF0.out.touch HL.fr HL.rd
        refine hK.out _ _ ?_ (fun hHeld => ?_)
        · exact ⟨(c5_cells HL.p).2.2.2.2, (c6_cells HF.s).2.2.2.2.2, (HALL.out _ HF.fr).2⟩
        clear hK K
        obtain ⟨css, hrw, hkw⟩ := HL.t.ks
        refine upto_ready (i := 9) (by kernel_rfl) rfl (fun K hK => ?_)
        refine step_own_v wb rfl _ _ 24 rfl (w1.heap.size + 1) 26 i0 (.agg #[.int .i64 0, .bool false, .string ⟨#[]⟩, .slice none 0 0, .slice none 0 0]) 5 80 Tryd.underlying24 HI.out.1 HI.out.2.1 HI.out.2.2.1 HI.out.2.2.2 rfl (by decide) _ _ _ rfl hrw ⟨wq.heap.size, 0, none⟩ 1 1 (c5 jk jf jt jA jns.length jca jK jkids.length jkc) rfl rfl HN.out HON.out ?d3 ?d4 ?d5 ?_
        case d3 => unfold maxLen; omega
        case d4 => omega
        case d5 => omega
        intro v' w9 hown hgrow hat
        obtain ⟨K2, kc2, rfl, HT⟩ := HL.t.appK hrw hkw HPW.out hown hgrow hat
        replace HL := HL.grow hgrow (fun k hk => (hrw.lt k hk).1) HT
        replace HF := HF0.out.touch HL.fr HL.rd
        clear hown hgrow hat HT HN hHeld hrw hkw HPW
        refine hK.out _ _ ?_ (fun hHeld => ?_)
        · exact ⟨(c5_cells HL.p).2.2.2.2, (c6_cells HF.s).2.2.2.2.2, (HALL.out _ HF.fr).2⟩
        clear hK K
        (first
          | (refine upto_take (i := 10) (v := ?_) rfl rfl (by kernel_rfl) (by kernel_rfl) (by kernel_rfl) (by kernel_rfl) (fun _ _ _ h => h) (Or.inl ⟨rfl, ?_⟩) (by assumption) ?_; rotate_left; (intro X hSw; (try dsimp only at hSw); (go_simp <;> with_reducible rfl)))
          | (refine upto_take (i := 10) (v := undef) rfl rfl (by kernel_rfl) (by kernel_rfl) (by kernel_rfl) (by kernel_rfl) (fun _ _ _ h => h) (Or.inr ⟨rfl, rfl⟩) (by assumption) ?_)); simp only [Act.put, List.setIfInBounds_toArray, List.set_cons_zero, List.set_cons_succ]
        refine upto_last (by kernel_rfl) rfl (by kernel_rfl) (fun K hK => ?_)
        have e4 := (c5_cells HL.p).2.2.2.2
        have f4 := HL.p.frozen 4
        have pl := HL.lt
        clear hHeld
        go_simp
        refine hK.out _ _ ?_
        clear hK K
        replace HL := HL.set 4 (.slice K2 (js ++ [Js.mk jk jf jt jns jkids]).length kc2)
        have hkl2 : (js ++ [Js.mk jk jf jt jns jkids]).length = js.length + 1 := by simp
        rw [← hkl2]
        have HJS2 : Hid (∀ p ∈ js ++ [Js.mk jk jf jt jns jkids], LimJ 1000 p) := fun p hp => by
          rcases List.mem_append.1 hp with h | h
          · exact HJS.out p h
          · simp at h; subst h; exact HJL.out
        have HKL2 := Lib.hid hkl2
        clear e4 f4 pl HJS hkl2 HF
        generalize js ++ [Js.mk jk jf jt jns jkids] = js2 at *
        generalize w9.setCell ⟨w1.heap.size, 4, none⟩ (.slice K2 js2.length kc2) = wz at *
        go_wp2
        go_roundw
        case rel => exact ⟨i - 1, js2, K2, kc2, by go_num, by have := HKL2.out; omega, HJS2, HL.mono (by have := HCI.out.2; have := HNI.out; omega)⟩
        case measure => simp [intOf]; omega
      · have hi2 : ¬ (0 : Int) < (i : Int) := by omega
        have hN5 : (5 - i) * costF n ≤ 5 * costF n := Nat.mul_le_mul_right _ (by omega)
        have hP1 := HL.hP
        have HFIN : Hid (FitJPost w B g N (6 * costF n) (.returned (.agg (c5 k false ⟨#[]⟩ none 0 0 KJ js.length kcj).toArray)) (five wr (w.heap.size + 1) (.int .i64 k) (.bool false) (.string ⟨#[]⟩) (.slice none 0 0) (.slice KJ js.length kcj))) :=
          ⟨k, false, ⟨#[]⟩, [], js, none, KJ, 0, kcj, rfl, (HL.t.keep fun z hz _ => five_other _ _ _ _ _ z (by omega)).low (by omega), .mk k false _ [] js (by decide) (by simp) (by simp) (by omega) HJS.out, (HL.rd.keep fun z hz => five_other _ _ _ _ _ z (by have := HL.hB; have := HF.hB; omega)).mono (Nat.le_refl _) (by omega), five_grown HF.fr (by omega) _ _ _ _ _⟩
        obtain ⟨p0, p1, p2, p3, p4⟩ := c5_cells HL.p
        obtain ⟨r0, r1, r2, r3, r4⟩ := c5_cells HF.r
        have f0 := HF.r.frozen 0
        have f1 := HF.r.frozen 1
        have f2 := HF.r.frozen 2
        have f3 := HF.r.frozen 3
        have f4 := HF.r.frozen 4
        have rl := HF.r.lt
        have pl := HL.lt
        have e3 := (c6_cells HF.s).2.2.2.1
        clear hN5
        go_wp2
        go_loopw [7] (fun c wx => c = .int .i64 0 ∧ wx = wr) (fun _ _ => 0)
        case atStart => exact ⟨rfl, rfl⟩
        case round =>
          obtain ⟨rfl, rfl⟩ := hrel
          by_cases hz : (0 : Int) < (ns.length : Int)
          · go_wp2
            obtain ⟨q0, q1, q2, q3, q4⟩ := c5_cells (five_cells HF.r rfl k false ⟨#[]⟩ none KJ 0 0 js.length kcj)
            simp only [five] at q0 q1 q2 q3 q4
            exact bodyPost_ret (v := .agg (c5 k false ⟨#[]⟩ none 0 0 KJ js.length kcj).toArray) (by simp [results, Tryd.results40, go_sem, q0, q1, q2, q3, q4, c5]) rfl HFIN.out
          · go_wp2
            obtain ⟨q0, q1, q2, q3, q4⟩ := c5_cells (five_cells HF.r rfl k false ⟨#[]⟩ none KJ 0 0 js.length kcj)
            simp only [five] at q0 q1 q2 q3 q4
            exact bodyPost_ret (v := .agg (c5 k false ⟨#[]⟩ none 0 0 KJ js.length kcj).toArray) (by simp [results, Tryd.results40, go_sem, q0, q1, q2, q3, q4, c5]) rfl HFIN.out
  · have q5' : (k == 5) = false := by simp [k5]
    have k6 : k = 6 := by omega
    have q6' : (k == 6) = true := by simp [k6]
    have HLEN := Lib.hid (HKC.out.2.1 k6)
    clear k5 hk56 k6
    have HF := HF0.out.touch HL.fr HL.rd
    have d0 := (c6_cells HF.s).1
    go_upto_block 1 with fail
    go_cut [] (fun wx => wx = w4)
    case first =>
      go_wp2_with fail
      go_loopw [6] (fun c wx => c = .int .i64 m ∧ wx = w4) (fun _ _ => 0)
      case atStart => exact ⟨rfl, rfl⟩
      case round =>
        obtain ⟨rfl, rfl⟩ := hrel
        by_cases hm1 : 0 < m
        · go_wp2_with fail
          go_meet
          rfl
        · go_wp2_with fail
          go_meet
          rfl
    case rest =>
    obtain rfl := hcut
    clear d0 HF
    go_wp2
    go_loopw [7] (fun c wr => ∃ (i : Nat) (ns2 : List ByteArray) (js : List Js) (AJ KJ : Option Addr) (caj kcj : Nat), c = .int .i64 i ∧ i ≤ ns.length ∧ ns2.length ≤ i ∧ js.length ≤ i ∧ Hid (∀ s ∈ ns2, s.size ≤ 10) ∧ Hid (∀ p ∈ js, LimJ 1000 p) ∧ Hid (JsCS w1 B g (N + 2 + i * (2 + costF n)) w1.heap.size (w1.heap.size + 1) (c5 k false ⟨#[]⟩ AJ ns2.length caj KJ js.length kcj) ns2 js AJ KJ caj kcj wr)) (fun c _ => ns.length - (intOf c).toNat)
    case atStart => exact ⟨0, [], [], none, none, 0, 0, rfl, by omega, by simp, by simp, by show ∀ _, _; simp, by show ∀ _, _; simp, HL.mono (by omega)⟩
    case round =>
      clear HL
      obtain ⟨i, ns2, js, AJ, KJ, caj, kcj, rfl, hin, hn2, hj2, HNS2, HJS, HLI⟩ := hrel
      have HL := HLI.out
      clear HLI
      have HF := HF0.out.touch HL.fr HL.rd
      have d0 := (c6_cells HF.s).1
      have d3 := (c6_cells HF.s).2.2.2.1
      by_cases hi1 : i < ns.length
      · have hi2 : (i : Int) < (ns.length : Int) := by omega
        have him : i < ms.length := by have := HLEN.out.1; omega
        have hik : i < kids.length := by have := HLEN.out.2; omega
        have him2 : (i : Int) < (ms.length : Int) := by omega
        have hik2 : (i : Int) < (kids.length : Int) := by omega
        have hci : i * (2 + costF n) + (2 + costF n) ≤ 4 * (2 + costF n) := by rw [← Nat.succ_mul]; exact Nat.mul_le_mul_right _ (by omega)
        have hcj : (i + 1) * (2 + costF n) = i * (2 + costF n) + (2 + costF n) := Nat.succ_mul _ _
        have HCI := Lib.hid (And.intro hci hcj)
        generalize hNI : N + 2 + i * (2 + costF n) = NI at HL
        have HNI := Lib.hid hNI
        clear hci hcj hNI
        replace HF := HF0.out.touch HL.fr HL.rd
        obtain ⟨mb, mo, rfl, hmc⟩ := HSC.out.must him
        have m0 := hmc _ HF.fr
        have d4 := (c6_cells HF.s).2.2.2.2.1
        generalize ms[i] = must at *
        go_upto_region 22 with fail
        go_cut [136] (fun c wx => ∃ r : Bool, c = .bool r ∧ Hid (JsCS w1 B g (NI + 2) w1.heap.size (w1.heap.size + 1) (c5 k false ⟨#[]⟩ AJ ns2.length caj KJ js.length kcj) ns2 js AJ KJ caj kcj wx))
        case first =>
          have HB0 : NI + 2 ≤ 60000 := by have := HCI.out.1; have := HNI.out; omega
          cases must
          · go_wp2_with fail
            refine (pick_any B g NI 2 _ HL.rd (by omega) (by omega) (by omega)).mono ?_
            rintro e w5 ⟨y, rfl, hy0, hy1, hrd5, hg5⟩
            replace HL := HL.touch hg5 hrd5
            go_wp2
            go_meet
            exact ⟨_, rfl, HL.mono (by omega)⟩
          · go_wp2_with fail
            refine (pick_any B g NI 20 _ HL.rd (by omega) (by omega) (by omega)).mono ?_
            rintro e w5 ⟨x, rfl, hx0, hx1, hrd5, hg5⟩
            replace HL := HL.touch hg5 hrd5
            by_cases hx : 0 < x
            · go_wp2
              go_meet
              exact ⟨_, rfl, HL.mono (by omega)⟩
            · go_wp2_with fail
              refine (pick_any B g (NI + 1) 2 _ HL.rd (by omega) (by omega) (by omega)).mono ?_
              rintro e w6 ⟨y, rfl, hy0, hy1, hrd6, hg6⟩
              replace HL := HL.touch hg6 hrd6
              go_wp2
              go_meet
              exact ⟨_, rfl, HL⟩
        case rest =>
          obtain ⟨r, rfl, HLr⟩ := hcut
          clear HL HF m0 d4 d0 d3
          have HL := HLr.out
          clear HLr
          cases r
          · go_wp2
            go_roundw
            case rel => exact ⟨i + 1, ns2, js, AJ, KJ, caj, kcj, by go_num, by omega, by omega, by omega, HNS2, HJS, HL.mono (by have := HCI.out.2; have := HNI.out; omega)⟩
            case measure => simp [intOf]; omega
          · have HF := HF0.out.touch HL.fr HL.rd
            obtain ⟨nb, no, rfl, hnc⟩ := HSC.out.name hi1
            have hs10 := HNS.out _ (List.getElem_mem hi1)
            have HNC := Lib.hid hnc
            clear hnc
            generalize ns[i] = s at *
            obtain ⟨b, off, k', mn', mx', ns', ms', kids', A', M', K', ca', ma', kc', rfl, hki, hall⟩ := HSC.out.kid hik
            have HALL := Lib.hid hall
            have hok' := HKS.out _ (List.getElem_mem hik)
            rw [hki] at hok'
            have HOK' := Lib.hid hok'
            clear hall hki hok'
            have hn4 : ns2.length ≤ 4 := by omega
            have hj4 : js.length ≤ 4 := by omega
            go_wp2
            refine wp_region_upto (S := (fun X => X.cell? ⟨w1.heap.size, 3, none⟩ = some (.slice AJ ns2.length caj) ∧ X.cell? ⟨w.heap.size, 3, none⟩ = some (.slice (some ⟨nb, no, none⟩) ns.length ca) ∧ X.cell? ⟨nb, no + i, none⟩ = some (.string s))) (z := 10) (by kernel_rfl) ?_ (fun hHeld => ?_)
            · exact ⟨(c5_cells HL.p).2.2.2.1, (c6_cells HF.s).2.2.2.1, HNC.out _ HF.drew.fr⟩
            (first
              | (refine upto_take (i := 0) (v := ?_) rfl rfl (by kernel_rfl) (by kernel_rfl) (by kernel_rfl) (by kernel_rfl) (fun _ _ _ h => h) (Or.inl ⟨rfl, ?_⟩) (by assumption) ?_; rotate_left; (intro X hSw; (try dsimp only at hSw); (go_simp <;> with_reducible rfl)))
              | (refine upto_take (i := 0) (v := undef) rfl rfl (by kernel_rfl) (by kernel_rfl) (by kernel_rfl) (by kernel_rfl) (fun _ _ _ h => h) (Or.inr ⟨rfl, rfl⟩) (by assumption) ?_)); simp only [Act.put, List.setIfInBounds_toArray, List.set_cons_zero, List.set_cons_succ]
            (first
              | (refine upto_take (i := 1) (v := ?_) rfl rfl (by kernel_rfl) (by kernel_rfl) (by kernel_rfl) (by kernel_rfl) (fun _ _ _ h => h) (Or.inl ⟨rfl, ?_⟩) (by assumption) ?_; rotate_left; (intro X hSw; (try dsimp only at hSw); (go_simp <;> with_reducible rfl)))
              | (refine upto_take (i := 1) (v := undef) rfl rfl (by kernel_rfl) (by kernel_rfl) (by kernel_rfl) (by kernel_rfl) (fun _ _ _ h => h) (Or.inr ⟨rfl, rfl⟩) (by assumption) ?_)); simp only [Act.put, List.setIfInBounds_toArray, List.set_cons_zero, List.set_cons_succ]
            (first
              | (refine upto_take (i := 2) (v := ?_) rfl rfl (by kernel_rfl) (by kernel_rfl) (by kernel_rfl) (by kernel_rfl) (fun _ _ _ h => h) (Or.inl ⟨rfl, ?_⟩) (by assumption) ?_; rotate_left; (intro X hSw; (try dsimp only at hSw); (go_simp <;> with_reducible rfl)))
              | (refine upto_take (i := 2) (v := undef) rfl rfl (by kernel_rfl) (by kernel_rfl) (by kernel_rfl) (by kernel_rfl) (fun _ _ _ h => h) (Or.inr ⟨rfl, rfl⟩) (by assumption) ?_)); simp only [Act.put, List.setIfInBounds_toArray, List.set_cons_zero, List.set_cons_succ]
            (first
              | (refine upto_take (i := 3) (v := ?_) rfl rfl (by kernel_rfl) (by kernel_rfl) (by kernel_rfl) (by kernel_rfl) (fun _ _ _ h => h) (Or.inl ⟨rfl, ?_⟩) (by assumption) ?_; rotate_left; (intro X hSw; (try dsimp only at hSw); (go_simp <;> with_reducible rfl)))
              | (refine upto_take (i := 3) (v := undef) rfl rfl (by kernel_rfl) (by kernel_rfl) (by kernel_rfl) (by kernel_rfl) (fun _ _ _ h => h) (Or.inr ⟨rfl, rfl⟩) (by assumption) ?_)); simp only [Act.put, List.setIfInBounds_toArray, List.set_cons_zero, List.set_cons_succ]
            (first
              | (refine upto_take (i := 4) (v := ?_) rfl rfl (by kernel_rfl) (by kernel_rfl) (by kernel_rfl) (by kernel_rfl) (fun _ _ _ h => h) (Or.inl ⟨rfl, ?_⟩) (by assumption) ?_; rotate_left; (intro X hSw; (try dsimp only at hSw); (go_simp <;> with_reducible rfl)))
              | (refine upto_take (i := 4) (v := undef) rfl rfl (by kernel_rfl) (by kernel_rfl) (by kernel_rfl) (by kernel_rfl) (fun _ _ _ h => h) (Or.inr ⟨rfl, rfl⟩) (by assumption) ?_)); simp only [Act.put, List.setIfInBounds_toArray, List.set_cons_zero, List.set_cons_succ]
            (first
              | (refine upto_take (i := 5) (v := ?_) rfl rfl (by kernel_rfl) (by kernel_rfl) (by kernel_rfl) (by kernel_rfl) (fun _ _ _ h => h) (Or.inl ⟨rfl, ?_⟩) (by assumption) ?_; rotate_left; (intro X hSw; (try dsimp only at hSw); (go_simp <;> with_reducible rfl)))
              | (refine upto_take (i := 5) (v := undef) rfl rfl (by kernel_rfl) (by kernel_rfl) (by kernel_rfl) (by kernel_rfl) (fun _ _ _ h => h) (Or.inr ⟨rfl, rfl⟩) (by assumption) ?_)); simp only [Act.put, List.setIfInBounds_toArray, List.set_cons_zero, List.set_cons_succ]
            (first
              | (refine upto_take (i := 6) (v := ?_) rfl rfl (by kernel_rfl) (by kernel_rfl) (by kernel_rfl) (by kernel_rfl) (fun _ _ _ h => h) (Or.inl ⟨rfl, ?_⟩) (by assumption) ?_; rotate_left; (intro X hSw; (try dsimp only at hSw); (go_simp <;> with_reducible rfl)))
              | (refine upto_take (i := 6) (v := undef) rfl rfl (by kernel_rfl) (by kernel_rfl) (by kernel_rfl) (by kernel_rfl) (fun _ _ _ h => h) (Or.inr ⟨rfl, rfl⟩) (by assumption) ?_)); simp only [Act.put, List.setIfInBounds_toArray, List.set_cons_zero, List.set_cons_succ]
            clear hHeld
            refine upto_ready (i := 7) (by kernel_rfl) rfl (fun K hK => ?_)
            go_simp
            generalize hwb : (wc.alloc (.cells #[.string s] 9)).drew = wb
            have hsc1 := HL.lt
            replace HL : JsCS w1 B g (NI + 2) w1.heap.size (w1.heap.size + 1) (c5 k false ⟨#[]⟩ AJ ns2.length caj KJ js.length kcj) ns2 js AJ KJ caj kcj wb := by
              rw [← hwb]; exact (HL.alloc _).drew
            have HN : Hid (∀ j u, ([Value.string s])[j]? = some u → wb.cell? ((⟨wc.heap.size, 0, none⟩ : Addr).add j) = some u) := by
              rw [← hwb]; exact cells_new wc [.string s] 9
            have swb : wc.heap.size + 1 = wb.heap.size := by rw [← hwb]; show _ = (wc.alloc _).heap.size; simp
            clear hwb
            replace HF := HF0.out.touch HL.fr HL.rd
            refine hK.out _ _ ?_ (fun hHeld => ?_)
            · exact ⟨(c5_cells HL.p).2.2.2.1, (c6_cells HF.s).2.2.2.1, HNC.out _ HF.fr⟩
            clear hK K hHeld
            refine upto_ready (i := 8) (by kernel_rfl) rfl (fun K hK => ?_)
            refine step_own_v wb rfl _ _ 23 rfl (w1.heap.size + 1) 9 i1 (.string ⟨#[]⟩) 1 16 Tryd.underlying23 HIS.out.1 HIS.out.2.1 HIS.out.2.2.1 HIS.out.2.2.2 rfl (by decide) _ _ _ rfl HL.t.oA ⟨wc.heap.size, 0, none⟩ 1 1 [.string s] rfl rfl HN.out ?d2 ?d3 ?d4 ?d5 ?_
            case d2 => (intro u hu; simp at hu; subst hu; rfl)
            case d3 => unfold maxLen; omega
            case d4 => omega
            case d5 => omega
            intro v' w5 hown hgrow hat
            obtain ⟨AJ2, caj2, rfl, HT⟩ := HL.t.appA hown hgrow hat
            replace HL := HL.grow hgrow (fun k hk => (HL.t.oA.lt k hk).1) HT
            clear hown hgrow hat HT HN
            replace HF := HF0.out.touch HL.fr HL.rd
            refine hK.out _ _ ?_ (fun hHeld => ?_)
            · exact ⟨(c5_cells HL.p).2.2.2.1, (c6_cells HF.s).2.2.2.1, HNC.out _ HF.fr⟩
            clear hK K
            (first
              | (refine upto_take (i := 9) (v := ?_) rfl rfl (by kernel_rfl) (by kernel_rfl) (by kernel_rfl) (by kernel_rfl) (fun _ _ _ h => h) (Or.inl ⟨rfl, ?_⟩) (by assumption) ?_; rotate_left; (intro X hSw; (try dsimp only at hSw); (go_simp <;> with_reducible rfl)))
              | (refine upto_take (i := 9) (v := undef) rfl rfl (by kernel_rfl) (by kernel_rfl) (by kernel_rfl) (by kernel_rfl) (fun _ _ _ h => h) (Or.inr ⟨rfl, rfl⟩) (by assumption) ?_)); simp only [Act.put, List.setIfInBounds_toArray, List.set_cons_zero, List.set_cons_succ]
            refine upto_last (by kernel_rfl) rfl (by kernel_rfl) (fun K hK => ?_)
            have e3 := (c5_cells HL.p).2.2.2.1
            have f3 := HL.p.frozen 3
            have pl := HL.lt
            clear hHeld
            go_simp
            refine hK.out _ _ ?_
            clear hK K
            replace HL := HL.set 3 (.slice AJ2 (ns2 ++ [s]).length caj2)
            have HNS3 : Hid (∀ x ∈ ns2 ++ [s], x.size ≤ 10) := fun x hx => by
              rcases List.mem_append.1 hx with h | h
              · exact HNS2.out x h
              · simp at h; subst h; exact hs10
            have hnl2 : (ns2 ++ [s]).length = ns2.length + 1 := by simp
            rw [← hnl2]
            have HNL2 := Lib.hid hnl2
            clear hnl2 e3 f3 pl HF
            generalize ns2 ++ [s] = ns3 at *
            generalize w5.setCell ⟨w1.heap.size, 3, none⟩ (.slice AJ2 ns3.length caj2) = w6 at *
            have HF := HF0.out.touch HL.fr HL.rd
            go_wp2
            refine wp_region_upto (S := (fun X => X.cell? ⟨w1.heap.size, 4, none⟩ = some (.slice KJ js.length kcj) ∧ X.cell? ⟨w.heap.size, 5, none⟩ = some (.slice (some ⟨b, off, none⟩) kids.length kc) ∧ X.cell? ⟨b, off + i * 6, none⟩ = some (.int .i64 k') ∧ X.cell? ⟨b, off + i * 6 + 1, none⟩ = some (.int .i64 mn') ∧ X.cell? ⟨b, off + i * 6 + 2, none⟩ = some (.int .i64 mx') ∧ X.cell? ⟨b, off + i * 6 + 3, none⟩ = some (.slice A' ns'.length ca') ∧ X.cell? ⟨b, off + i * 6 + 4, none⟩ = some (.slice M' ms'.length ma') ∧ X.cell? ⟨b, off + i * 6 + 5, none⟩ = some (.slice K' kids'.length kc'))) (z := 12) (by kernel_rfl) ?_ (fun hHeld => ?_)
            · exact ⟨(c5_cells HL.p).2.2.2.2, (c6_cells HF.s).2.2.2.2.2, (HALL.out _ HF.fr).2⟩
            (first
              | (refine upto_take (i := 0) (v := ?_) rfl rfl (by kernel_rfl) (by kernel_rfl) (by kernel_rfl) (by kernel_rfl) (fun _ _ _ h => h) (Or.inl ⟨rfl, ?_⟩) (by assumption) ?_; rotate_left; (intro X hSw; (try dsimp only at hSw); (go_simp <;> with_reducible rfl)))
              | (refine upto_take (i := 0) (v := undef) rfl rfl (by kernel_rfl) (by kernel_rfl) (by kernel_rfl) (by kernel_rfl) (fun _ _ _ h => h) (Or.inr ⟨rfl, rfl⟩) (by assumption) ?_)); simp only [Act.put, List.setIfInBounds_toArray, List.set_cons_zero, List.set_cons_succ]
            (first
              | (refine upto_take (i := 1) (v := ?_) rfl rfl (by kernel_rfl) (by kernel_rfl) (by kernel_rfl) (by kernel_rfl) (fun _ _ _ h => h) (Or.inl ⟨rfl, ?_⟩) (by assumption) ?_; rotate_left; (intro X hSw; (try dsimp only at hSw); (go_simp <;> with_reducible rfl)))
              | (refine upto_take (i := 1) (v := undef) rfl rfl (by kernel_rfl) (by kernel_rfl) (by kernel_rfl) (by kernel_rfl) (fun _ _ _ h => h) (Or.inr ⟨rfl, rfl⟩) (by assumption) ?_)); simp only [Act.put, List.setIfInBounds_toArray, List.set_cons_zero, List.set_cons_succ]
            (first
              | (refine upto_take (i := 2) (v := ?_) rfl rfl (by kernel_rfl) (by kernel_rfl) (by kernel_rfl) (by kernel_rfl) (fun _ _ _ h => h) (Or.inl ⟨rfl, ?_⟩) (by assumption) ?_; rotate_left; (intro X hSw; (try dsimp only at hSw); (go_simp <;> with_reducible rfl)))
              | (refine upto_take (i := 2) (v := undef) rfl rfl (by kernel_rfl) (by kernel_rfl) (by kernel_rfl) (by kernel_rfl) (fun _ _ _ h => h) (Or.inr ⟨rfl, rfl⟩) (by assumption) ?_)); simp only [Act.put, List.setIfInBounds_toArray, List.set_cons_zero, List.set_cons_succ]
            (first
              | (refine upto_take (i := 3) (v := ?_) rfl rfl (by kernel_rfl) (by kernel_rfl) (by kernel_rfl) (by kernel_rfl) (fun _ _ _ h => h) (Or.inl ⟨rfl, ?_⟩) (by assumption) ?_; rotate_left; (intro X hSw; (try dsimp only at hSw); (go_simp <;> with_reducible rfl)))
              | (refine upto_take (i := 3) (v := undef) rfl rfl (by kernel_rfl) (by kernel_rfl) (by kernel_rfl) (by kernel_rfl) (fun _ _ _ h => h) (Or.inr ⟨rfl, rfl⟩) (by assumption) ?_)); simp only [Act.put, List.setIfInBounds_toArray, List.set_cons_zero, List.set_cons_succ]
            (first
              | (refine upto_take (i := 4) (v := ?_) rfl rfl (by kernel_rfl) (by kernel_rfl) (by kernel_rfl) (by kernel_rfl) (fun _ _ _ h => h) (Or.inl ⟨rfl, ?_⟩) (by assumption) ?_; rotate_left; (intro X hSw; (try dsimp only at hSw); (go_simp <;> with_reducible rfl)))
              | (refine upto_take (i := 4) (v := undef) rfl rfl (by kernel_rfl) (by kernel_rfl) (by kernel_rfl) (by kernel_rfl) (fun _ _ _ h => h) (Or.inr ⟨rfl, rfl⟩) (by assumption) ?_)); simp only [Act.put, List.setIfInBounds_toArray, List.set_cons_zero, List.set_cons_succ]
            (first
              | (refine upto_take (i := 5) (v := ?_) rfl rfl (by kernel_rfl) (by kernel_rfl) (by kernel_rfl) (by kernel_rfl) (fun _ _ _ h => h) (Or.inl ⟨rfl, ?_⟩) (by assumption) ?_; rotate_left; (intro X hSw; (try dsimp only at hSw); (go_simp <;> with_reducible rfl)))
              | (refine upto_take (i := 5) (v := undef) rfl rfl (by kernel_rfl) (by kernel_rfl) (by kernel_rfl) (by kernel_rfl) (fun _ _ _ h => h) (Or.inr ⟨rfl, rfl⟩) (by assumption) ?_)); simp only [Act.put, List.setIfInBounds_toArray, List.set_cons_zero, List.set_cons_succ]
            (first
              | (refine upto_take (i := 6) (v := ?_) rfl rfl (by kernel_rfl) (by kernel_rfl) (by kernel_rfl) (by kernel_rfl) (fun _ _ _ h => h) (Or.inl ⟨rfl, ?_⟩) (by assumption) ?_; rotate_left; (intro X hSw; (try dsimp only at hSw); (go_simp <;> with_reducible rfl)))
              | (refine upto_take (i := 6) (v := undef) rfl rfl (by kernel_rfl) (by kernel_rfl) (by kernel_rfl) (by kernel_rfl) (fun _ _ _ h => h) (Or.inr ⟨rfl, rfl⟩) (by assumption) ?_)); simp only [Act.put, List.setIfInBounds_toArray, List.set_cons_zero, List.set_cons_succ]
            (first
              | (refine upto_take (i := 7) (v := ?_) rfl rfl (by kernel_rfl) (by kernel_rfl) (by kernel_rfl) (by kernel_rfl) (fun _ _ _ h => h) (Or.inl ⟨rfl, ?_⟩) (by assumption) ?_; rotate_left; (intro X hSw; (try dsimp only at hSw); (go_simp <;> with_reducible rfl)))
              | (refine upto_take (i := 7) (v := undef) rfl rfl (by kernel_rfl) (by kernel_rfl) (by kernel_rfl) (by kernel_rfl) (fun _ _ _ h => h) (Or.inr ⟨rfl, rfl⟩) (by assumption) ?_)); simp only [Act.put, List.setIfInBounds_toArray, List.set_cons_zero, List.set_cons_succ]
            replace HL := HL.drew
            replace HF := HF0.out.touch HL.fr HL.rd
            have HC := Lib.hid (HIH.out k' mn' mx' ns' ms' kids' A' M' K' ca' ma' kc' B g (NI + 2) w6.drew HOK'.out HL.rd (by have := HL.lt; have := HL.hB; have := HL.hP; omega) (by have := HCI.out.1; have := HNI.out; omega) (HALL.out _ HF.fr).1)
            simp only [c6] at HC
            have hs8 : w1.heap.size < w6.drew.heap.size := HL.lt
            clear hHeld
            refine upto_ready (i := 8) (by kernel_rfl) rfl (fun K hK => ?_)
            go_simp
            refine HC.out.mono ?_
            rintro e wq ⟨jk, jf, jt, jns, jkids, jA, jK, jca, jkc, rfl, jT, jl, hrd3, hg3⟩
            have HKB : Hid ((∀ z, (Value.slice KJ js.length kcj).ownBlock = some z → z < w6.drew.heap.size) ∧ ∀ z, (Value.slice AJ2 ns3.length caj2).ownBlock = some z → z < w6.drew.heap.size) := ⟨fun z hz => (HL.t.ks.lt z hz).2, fun z hz => (HL.t.oA.lt z hz).2⟩
            replace HL := HL.touch hg3 hrd3
            replace HF := HF0.out.touch HL.fr HL.rd
            have HPC := Lib.hid (jT.toC jk jf jt)
            have HJL := Lib.hid jl
            have hsq := hg3.size
            clear jT jl hrd3 hg3 HC
            refine hK.out _ _ ?_ (fun hHeld => ?_)
            · exact ⟨(c5_cells HL.p).2.2.2.2, (c6_cells HF.s).2.2.2.2.2, (HALL.out _ HF.fr).2⟩
            clear hK K
            refine upto_ready (i := 9) (by kernel_rfl) rfl (fun K hK => ?_)
            simp only [c5]
            go_simp
            clear hHeld
            generalize hwb : wq.alloc (.cells #[.int .i64 jk, .bool jf, .string jt, .slice jA jns.length jca, .slice jK jkids.length jkc] 26) = wb2
            replace HL : JsCS w1 B g (NI + 2 + costF n) w1.heap.size (w1.heap.size + 1) (c5 k false ⟨#[]⟩ AJ2 ns3.length caj2 KJ js.length kcj) ns3 js AJ2 KJ caj2 kcj wb2 := by
              rw [← hwb]; exact HL.alloc _
            have HPW : Hid (JsC wb2 (fun z => w1.heap.size + 1 ≤ z ∧ (Value.slice KJ js.length kcj).ownBlock ≠ some z ∧ (Value.slice AJ2 ns3.length caj2).ownBlock ≠ some z) (c5 jk jf jt jA jns.length jca jK jkids.length jkc) (.mk jk jf jt jns jkids)) := by
              rw [← hwb]
              exact HPC.out.mv' fun z hz hl => ⟨Below.heap_alloc wq _ z hl, by omega, fun e => by have := HKB.out.1 z e; omega, fun e => by have := HKB.out.2 z e; omega⟩
            have HN : Hid (∀ j u, (c5 jk jf jt jA jns.length jca jK jkids.length jkc)[j]? = some u → wb2.cell? ((⟨wq.heap.size, 0, none⟩ : Addr).add j) = some u) := by
              rw [← hwb]; exact cells_new wq (c5 jk jf jt jA jns.length jca jK jkids.length jkc) 26
            have swb2 : wq.heap.size + 1 = wb2.heap.size := by rw [← hwb]; simp
            have swl : w1.heap.size < wq.heap.size := by omega
            have HON := Lib.hid HPC.out.ones
            clear HPC hwb
            replace HF := HF0.out.touch HL.fr HL.rd
            refine hK.out _ _ ?_ (fun hHeld => ?_)
            · exact ⟨(c5_cells HL.p).2.2.2.2, (c6_cells HF.s).2.2.2.2.2, (HALL.out _ HF.fr).2⟩
            clear hK K
            obtain ⟨css, hrw, hkw⟩ := HL.t.ks
            refine upto_ready (i := 10) (by kernel_rfl) rfl (fun K hK => ?_)
            refine step_own_v wb2 rfl _ _ 24 rfl (w1.heap.size + 1) 26 i0 (.agg #[.int .i64 0, .bool false, .string ⟨#[]⟩, .slice none 0 0, .slice none 0 0]) 5 80 Tryd.underlying24 HI.out.1 HI.out.2.1 HI.out.2.2.1 HI.out.2.2.2 rfl (by decide) _ _ _ rfl hrw ⟨wq.heap.size, 0, none⟩ 1 1 (c5 jk jf jt jA jns.length jca jK jkids.length jkc) rfl rfl HN.out HON.out ?d3 ?d4 ?d5 ?_
            case d3 => unfold maxLen; omega
            case d4 => omega
            case d5 => omega
            intro v' w9 hown hgrow hat
            obtain ⟨K2, kc2, rfl, HT⟩ := HL.t.appK hrw hkw HPW.out hown hgrow hat
            replace HL := HL.grow hgrow (fun k hk => (hrw.lt k hk).1) HT
            replace HF := HF0.out.touch HL.fr HL.rd
            clear hown hgrow hat HT HN hHeld hrw hkw HPW
            refine hK.out _ _ ?_ (fun hHeld => ?_)
            · exact ⟨(c5_cells HL.p).2.2.2.2, (c6_cells HF.s).2.2.2.2.2, (HALL.out _ HF.fr).2⟩
            clear hK K
            (first
              | (refine upto_take (i := 11) (v := ?_) rfl rfl (by kernel_rfl) (by kernel_rfl) (by kernel_rfl) (by kernel_rfl) (fun _ _ _ h => h) (Or.inl ⟨rfl, ?_⟩) (by assumption) ?_; rotate_left; (intro X hSw; (try dsimp only at hSw); (go_simp <;> with_reducible rfl)))
              | (refine upto_take (i := 11) (v := undef) rfl rfl (by kernel_rfl) (by kernel_rfl) (by kernel_rfl) (by kernel_rfl) (fun _ _ _ h => h) (Or.inr ⟨rfl, rfl⟩) (by assumption) ?_)); simp only [Act.put, List.setIfInBounds_toArray, List.set_cons_zero, List.set_cons_succ]
            refine upto_last (by kernel_rfl) rfl (by kernel_rfl) (fun K hK => ?_)
            have e4 := (c5_cells HL.p).2.2.2.2
            have f4 := HL.p.frozen 4
            have pl := HL.lt
            clear hHeld
            go_simp
            refine hK.out _ _ ?_
            clear hK K
            replace HL := HL.set 4 (.slice K2 (js ++ [Js.mk jk jf jt jns jkids]).length kc2)
            have hkl2 : (js ++ [Js.mk jk jf jt jns jkids]).length = js.length + 1 := by simp
            rw [← hkl2]
            have HJS2 : Hid (∀ p ∈ js ++ [Js.mk jk jf jt jns jkids], LimJ 1000 p) := fun p hp => by
              rcases List.mem_append.1 hp with h | h
              · exact HJS.out p h
              · simp at h; subst h; exact HJL.out
            have HKL2 := Lib.hid hkl2
            clear e4 f4 pl HJS hkl2 HF
            generalize js ++ [Js.mk jk jf jt jns jkids] = js2 at *
            generalize w9.setCell ⟨w1.heap.size, 4, none⟩ (.slice K2 js2.length kc2) = wz at *
            go_wp2
            go_roundw
            case rel => exact ⟨i + 1, ns3, js2, AJ2, K2, caj2, kc2, by go_num, by omega, by have := HNL2.out; omega, by have := HKL2.out; omega, HNS3, HJS2, HL.mono (by have := HCI.out.2; have := HNI.out; omega)⟩
            case measure => simp [intOf]; omega
      · have hi2 : ¬ (i : Int) < (ns.length : Int) := by omega
        have hN5 : i * (2 + costF n) ≤ 4 * (2 + costF n) := Nat.mul_le_mul_right _ (by omega)
        have hP1 := HL.hP
        have HFIN : Hid (FitJPost w B g N (6 * costF n) (.returned (.agg (c5 k false ⟨#[]⟩ AJ ns2.length caj KJ js.length kcj).toArray)) (five wr (w.heap.size + 1) (.int .i64 k) (.bool false) (.string ⟨#[]⟩) (.slice AJ ns2.length caj) (.slice KJ js.length kcj))) :=
          ⟨k, false, ⟨#[]⟩, ns2, js, AJ, KJ, caj, kcj, rfl, (HL.t.keep fun z hz _ => five_other _ _ _ _ _ z (by omega)).low (by omega), .mk k false _ ns2 js (by decide) (by omega) (fun x hx => by have := HNS2.out x hx; omega) (by omega) HJS.out, (HL.rd.keep fun z hz => five_other _ _ _ _ _ z (by have := HL.hB; have := HF.hB; omega)).mono (Nat.le_refl _) (by omega), five_grown HF.fr (by omega) _ _ _ _ _⟩
        obtain ⟨p0, p1, p2, p3, p4⟩ := c5_cells HL.p
        obtain ⟨r0, r1, r2, r3, r4⟩ := c5_cells HF.r
        have f0 := HF.r.frozen 0
        have f1 := HF.r.frozen 1
        have f2 := HF.r.frozen 2
        have f3 := HF.r.frozen 3
        have f4 := HF.r.frozen 4
        have rl := HF.r.lt
        have pl := HL.lt
        clear hN5
        go_wp2
        obtain ⟨q0, q1, q2, q3, q4⟩ := c5_cells (five_cells HF.r rfl k false ⟨#[]⟩ AJ KJ ns2.length caj js.length kcj)
        simp only [five] at q0 q1 q2 q3 q4
        exact bodyPost_ret (v := .agg (c5 k false ⟨#[]⟩ AJ ns2.length caj KJ js.length kcj).toArray) (by simp [results, Tryd.results40, go_sem, q0, q1, q2, q3, q4, c5]) rfl HFIN.out

end Go.Proofs.YtmmafhibojipjaaDoor
