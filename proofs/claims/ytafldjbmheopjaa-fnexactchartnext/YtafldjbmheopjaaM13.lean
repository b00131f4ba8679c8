/- markCfg, heldProdS, heldCfg of productions that are one's own. -/
import Derived.Test.YtafldjbmheopjaaM12
namespace Go.Proofs.Ytafldjbmheopjaa
open Go.RowKit
set_option linter.unusedVariables false

theorem markV_get (xs : List Pv) : ∀ (k : Int) (j : Nat) (h : j < (markV k xs).length), (markV k xs)[j] = markV1 (endV k (xs.take j)) (xs[j]'(by rw [markV_length] at h; exact h)) := by
  induction xs with
  | nil => intro k j h; simp [markV] at h
  | cons x r ih =>
    intro k j h
    cases j with
    | zero => rfl
    | succ j =>
      simp only [markV, List.getElem_cons_succ, List.take_succ_cons, endV]
      exact ih _ j (by simpa [markV] using h)

set_option maxRecDepth 100000 in
set_option maxHeartbeats 1000000 in
theorem markCfgO_any (hd : Int) (base : Nat) (A : Option Addr) (cap : Nat) (xs : List Pv) (w : World) (hop : OG w base A cap xs) (hm : xs.length ≤ 1048576) (hs : ∀ x ∈ xs, x.p.body.length ≤ 1048576) :
    Calls Try.prog 16 #[.agg #[.int .i64 hd, .slice A xs.length cap], .int .i64 1] w fun e w' => e = .returned (.int .i64 (endV 1 xs)) ∧ OG w' base A cap (markV 1 xs) ∧ Fr (OF A xs) (OF A xs) w w' := by
  have HO := Lib.hid hop
  have HS := Lib.hid hs
  clear hop hs
  go_enter Try.func16, Try.ntmps16
  go_wp2_with fail
  refine (markPO_any base A cap xs _ (HO.out.keep (below_box _)) hm HS.out).mono ?_
  rintro e w1 ⟨rfl, hog, hf⟩
  have HOG := Lib.hid hog
  have HF := Lib.hid hf
  clear hog hf
  go_wp2
  go_ret
  exact ⟨rfl, HOG.out, (Fr.of_below _ (below_box _)).trans HF.out⟩

theorem OP.pv {w : World} {g : Nat} {bs : List Nat} {ps : List Pd} (h : OP w g bs ps) : ∃ xs : List Pv, xs.map Pv.p = ps ∧ Bodies w xs ∧ Row w (some ⟨g, 0, none⟩) (pvCells xs) ∧ ∀ x ∈ xs, x.K ≠ none := by
  have key : ∀ (bs : List Nat) (ps : List Pd), bs.length = ps.length → ∃ xs : List Pv, xs.map Pv.p = ps ∧ xs.length = bs.length ∧ pvCells xs = pdCells bs ps ∧ (∀ x ∈ xs, x.K ≠ none) ∧ ∀ i (h : i < xs.length) (h' : i < bs.length), xs[i].K = some ⟨bs[i], 0, none⟩ := by
    intro bs
    induction bs with
    | nil => intro ps hl; have : ps = [] := List.eq_nil_of_length_eq_zero hl.symm; subst this; exact ⟨[], rfl, rfl, rfl, (fun x hx => by cases hx), fun i h => by simp at h⟩
    | cons b r ih =>
      intro ps hl
      cases ps with
      | nil => cases hl
      | cons p ps =>
        obtain ⟨xs, h1, h2, h3, h4, h5⟩ := ih ps (by simpa using hl)
        refine ⟨⟨p, some ⟨b, 0, none⟩, p.body.length⟩ :: xs, by simp [h1], by simp [h2], by simp [pvCells, pdCells, h3, Pv.sl], ?_, ?_⟩
        · intro x hx
          rcases List.mem_cons.1 hx with rfl | hx
          · simp
          · exact h4 x hx
        · intro i hi hi'
          cases i with
          | zero => rfl
          | succ i => exact h5 i (by simpa using hi) (by simpa using hi')
  obtain ⟨xs, h1, h2, h3, h4, h5⟩ := key bs ps h.l
  refine ⟨xs, h1, fun x hx => ?_, by rw [h3]; exact h.o.row, h4⟩
  obtain ⟨i, hi, rfl⟩ := List.getElem_of_mem hx
  have hib : i < bs.length := by omega
  have hip : i < ps.length := by rw [← h.l]; exact hib
  have e : xs[i].p = ps[i] := by simp [← h1]
  rw [h5 i hi hib, e]
  exact (h.d i hip hib).syms

end Go.Proofs.Ytafldjbmheopjaa
