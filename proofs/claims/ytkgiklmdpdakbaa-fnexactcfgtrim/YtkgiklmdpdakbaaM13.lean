/- markCfg, heldProdS, heldCfg of productions that are one's own. -/
import Derived.Test.YtkgiklmdpdakbaaM12
namespace Go.Proofs.Ytkgiklmdpdakbaa
open Go.RowKit
set_option linter.unusedVariables false

theorem markV_get (xs : List Pv) : ∀ (k : Int) (j : Nat) (h : j < (markV k xs).length), (markV k xs)[j] = markV1 (endV k (xs.take j)) (xs[j]'(by rw [markV_length] at h; exact h)) := by
  induction xs with
  | nil => intro k j h; simp [markV] at h
  | cons x r ih =>
    intro k j h
    cases j with
    | zero => rfl
    | succ j =>
      simp only [markV, List.getElem_cons_succ, List.take_succ_cons, endV]
      exact ih _ j (by simpa [markV] using h)

set_option maxRecDepth 100000 in
set_option maxHeartbeats 1000000 in
theorem markCfgO_any (hd : Int) (base : Nat) (A : Option Addr) (cap : Nat) (xs : List Pv) (w : World) (hop : OG w base A cap xs) (hm : xs.length ≤ 1048576) (hs : ∀ x ∈ xs, x.p.body.length ≤ 1048576) :
    Calls Try.prog 13 #[.agg #[.int .i64 hd, .slice A xs.length cap], .int .i64 1] w fun e w' => e = .returned (.int .i64 (endV 1 xs)) ∧ OG w' base A cap (markV 1 xs) ∧ Fr (OF A xs) (OF A xs) w w' := by
  have HO := Lib.hid hop
  have HS := Lib.hid hs
  clear hop hs
  go_enter Try.func13, Try.ntmps13
  go_wp2_with fail
  refine (markPO_any base A cap xs _ (HO.out.keep (below_box _)) hm HS.out).mono ?_
  rintro e w1 ⟨rfl, hog, hf⟩
  have HOG := Lib.hid hog
  have HF := Lib.hid hf
  clear hog hf
  go_wp2
  go_ret
  exact ⟨rfl, HOG.out, (Fr.of_below _ (below_box _)).trans HF.out⟩

set_option maxRecDepth 100000 in
set_option maxHeartbeats 1000000 in
theorem heldP_any (a : Option Addr) (c : Nat) (xs : List Pv) (w : World) (hr : Pds w a ((markV 1 xs).map Pv.p)) (hm : xs.length ≤ 1048576) (hs : ∀ x ∈ xs, x.p.body.length ≤ 1048576) :
    Calls Try.prog 34 #[.slice a xs.length c, .int .i64 1] w fun e w' => e = .returned (.int .i64 (endV 1 xs)) ∧ w = w' := by
  have HR := Lib.hid hr
  have HS := Lib.hid hs
  clear hr hs
  obtain ⟨n, hn⟩ : ∃ n, xs.length = n := ⟨_, rfl⟩
  have HN := Lib.hid hn
  rw [hn] at hm ⊢
  clear hn
  go_enter Try.func34, Try.ntmps34
  go_wp2
  go_loop [1, 5] (fun q i => ∃ (j : Nat), i = .int .i64 j ∧ q = .int .i64 (endV 1 (xs.take j)) ∧ j ≤ n) (fun _ i => n - (intOf i).toNat)
  case atStart => exact ⟨0, rfl, rfl, Nat.zero_le _⟩
  case round =>
    obtain ⟨j, rfl, rfl, hj⟩ := hrel
    by_cases hlt : j < n
    · have hlt' : (j : Int) < (n : Int) := by omega
      have hjx : j < xs.length := by rw [HN.out]; exact hlt
      obtain ⟨b, off, rfl, K, kc, hp⟩ := HR.out.at_ (i := j) (by simp [markV_length]; exact hjx)
      have hg : ((markV 1 xs).map Pv.p)[j]'(by simp [markV_length]; exact hjx) = ⟨endV 1 (xs.take j), markS (endV 1 (xs.take j) + 1) xs[j].p.body⟩ := by
        rw [List.getElem_map, markV_get]; rfl
      rw [hg] at hp
      obtain ⟨c0, c1, hsy⟩ := hp
      simp only [markS_length] at c0 c1 hsy
      have hbd := endV_bound (xs.take j) 1 (fun x hx => HS.out x (List.mem_of_mem_take hx))
      have hz := HS.out _ (List.getElem_mem hjx)
      have htl : (xs.take j).length ≤ 1048576 := by rw [List.length_take]; omega
      have HEV : Hid (endV 1 (xs.take (j + 1)) = endV 1 (xs.take j) + 1 + 3 * (xs[j].p.body.length : Int)) := by
        show _ = _
        rw [List.take_succ_eq_append_getElem hjx, endV_snoc]; rfl
      generalize endV 1 (xs.take j) = k at *
      have HH := Lib.hid (heldS_any K kc xs[j].p.body (k + 1) w hsy hz (by omega) (by omega))
      have hne : (k != k) = false := by simp
      have hw1 : IntKind.i64.wrap (k + 1) = k + 1 := IntWalk.i64_in _ (by omega)
      have hb2 : endV 1 (xs.take (j + 1)) = k + 1 + 3 * (xs[j].p.body.length : Int) := HEV.out
      have hpos : ¬ endV 1 (xs.take (j + 1)) < 0 := by omega
      clear hg hsy HEV
      rw [← hb2] at HH
      clear hb2
      obtain ⟨k2, hk2⟩ : ∃ k2, endV 1 (xs.take (j + 1)) = k2 := ⟨_, rfl⟩
      rw [hk2] at HH hpos
      have HK2 := Lib.hid hk2
      clear hk2
      go_wp2_with fail
      refine HH.out.mono ?_
      rintro e w2 ⟨rfl, rfl⟩
      go_wp2
      go_round
      case rel => exact ⟨j + 1, by go_num, by rw [HK2.out], by omega⟩
      case measure => simp [intOf]; omega
    · have hlt' : ¬ (j : Int) < (n : Int) := by omega
      go_wp2
      go_ret
      obtain rfl : j = n := by omega
      have hN := HN.out
      subst hN
      refine ⟨?_, rfl⟩
      rw [List.take_length]; rfl

set_option maxRecDepth 100000 in
set_option maxHeartbeats 1000000 in
theorem heldCfg_any (hd : Int) (a : Option Addr) (c : Nat) (xs : List Pv) (w : World) (hr : Pds w a ((markV 1 xs).map Pv.p)) (hm : xs.length ≤ 1048576) (hs : ∀ x ∈ xs, x.p.body.length ≤ 1048576) :
    Calls Try.prog 14 #[.agg #[.int .i64 hd, .slice a xs.length c], .int .i64 1] w fun e w' => e = .returned (.int .i64 (endV 1 xs)) ∧ Below w.heap.size w w' := by
  have HR := Lib.hid hr
  have HS := Lib.hid hs
  have hbd := endV_bound xs 1 hs
  clear hr hs
  go_enter Try.func14, Try.ntmps14
  go_wp2_with fail
  refine (heldP_any a c xs _ (HR.out.keep (below_box _)) hm HS.out).mono ?_
  rintro e w1 ⟨rfl, rfl⟩
  obtain ⟨k, hk⟩ : ∃ k, endV 1 xs = k := ⟨_, rfl⟩
  have HK := Lib.hid hk
  rw [hk] at hbd ⊢
  have hpos : ¬ k < 0 := by omega
  clear hk
  go_wp2
  go_ret
  exact ⟨by rw [HK.out]; rfl, below_box _⟩

theorem OP.pv {w : World} {g : Nat} {bs : List Nat} {ps : List Pd} (h : OP w g bs ps) : ∃ xs : List Pv, xs.map Pv.p = ps ∧ Bodies w xs ∧ Row w (some ⟨g, 0, none⟩) (pvCells xs) ∧ ∀ x ∈ xs, x.K ≠ none := by
  have key : ∀ (bs : List Nat) (ps : List Pd), bs.length = ps.length → ∃ xs : List Pv, xs.map Pv.p = ps ∧ xs.length = bs.length ∧ pvCells xs = pdCells bs ps ∧ (∀ x ∈ xs, x.K ≠ none) ∧ ∀ i (h : i < xs.length) (h' : i < bs.length), xs[i].K = some ⟨bs[i], 0, none⟩ := by
    intro bs
    induction bs with
    | nil => intro ps hl; have : ps = [] := List.eq_nil_of_length_eq_zero hl.symm; subst this; exact ⟨[], rfl, rfl, rfl, (fun x hx => by cases hx), fun i h => by simp at h⟩
    | cons b r ih =>
      intro ps hl
      cases ps with
      | nil => cases hl
      | cons p ps =>
        obtain ⟨xs, h1, h2, h3, h4, h5⟩ := ih ps (by simpa using hl)
        refine ⟨⟨p, some ⟨b, 0, none⟩, p.body.length⟩ :: xs, by simp [h1], by simp [h2], by simp [pvCells, pdCells, h3, Pv.sl], ?_, ?_⟩
        · intro x hx
          rcases List.mem_cons.1 hx with rfl | hx
          · simp
          · exact h4 x hx
        · intro i hi hi'
          cases i with
          | zero => rfl
          | succ i => exact h5 i (by simpa using hi) (by simpa using hi')
  obtain ⟨xs, h1, h2, h3, h4, h5⟩ := key bs ps h.l
  refine ⟨xs, h1, fun x hx => ?_, by rw [h3]; exact h.o.row, h4⟩
  obtain ⟨i, hi, rfl⟩ := List.getElem_of_mem hx
  have hib : i < bs.length := by omega
  have hip : i < ps.length := by rw [← h.l]; exact hib
  have e : xs[i].p = ps[i] := by simp [← h1]
  rw [h5 i hi hib, e]
  exact (h.d i hip hib).syms

end Go.Proofs.Ytkgiklmdpdakbaa
