/- Productions that are one's own are marked, and hold their marks: markProdS, markCfg, heldProdS, heldCfg. -/
import Derived.Test.YtafldjbmheopjaaM11
namespace Go.Proofs.Ytafldjbmheopjaa
open Go.RowKit
set_option linter.unusedVariables false

def endP (k : Int) (x : Pv) : Int := k + 1 + 3 * x.p.body.length
def markV1 (k : Int) (x : Pv) : Pv := ⟨⟨k, markS (k + 1) x.p.body⟩, x.K, x.kc⟩
def endV (k : Int) : List Pv → Int
  | [] => k
  | x :: r => endV (endP k x) r
def markV (k : Int) : List Pv → List Pv
  | [] => []
  | x :: r => markV1 k x :: markV (endP k x) r
theorem markV_length (xs : List Pv) : ∀ k, (markV k xs).length = xs.length := by
  induction xs with
  | nil => intro k; rfl
  | cons s r ih => intro k; simp [markV, ih]
theorem endV_snoc (xs : List Pv) (x : Pv) : ∀ k, endV k (xs ++ [x]) = endP (endV k xs) x := by
  induction xs with
  | nil => intro k; rfl
  | cons y r ih => intro k; simp [endV, ih]
theorem markV_snoc (xs : List Pv) (x : Pv) : ∀ k, markV k (xs ++ [x]) = markV k xs ++ [markV1 (endV k xs) x] := by
  induction xs with
  | nil => intro k; rfl
  | cons y r ih => intro k; simp [markV, endV, ih]
theorem sl_mark (k : Int) (x : Pv) : (markV1 k x).sl = x.sl := by
  unfold markV1 Pv.sl
  simp [markS_length]
theorem endV_bound (xs : List Pv) : ∀ k, (∀ x ∈ xs, x.p.body.length ≤ 1048576) → k ≤ endV k xs ∧ endV k xs ≤ k + xs.length * 4000000 := by
  induction xs with
  | nil => intro k _; simp [endV]
  | cons y r ih =>
    intro k h
    have h1 := ih (endP k y) (fun x hx => h x (List.mem_cons_of_mem _ hx))
    have h2 := h y (List.mem_cons_self ..)
    unfold endV
    unfold endP at h1 ⊢
    simp only [List.length_cons]
    omega

/-- While productions are marked. -/
def mid (k : Int) (xs : List Pv) (j : Nat) : List Pv := markV k (xs.take j) ++ xs.drop j
theorem mid_length (k : Int) (xs : List Pv) (j : Nat) : (mid k xs j).length = xs.length := by
  unfold mid
  rw [List.length_append, markV_length, List.length_take, List.length_drop]
  omega
theorem mid_at (k : Int) (xs : List Pv) (j : Nat) (h : j < xs.length) : (mid k xs j)[j]'(by rw [mid_length]; exact h) = xs[j] := by
  unfold mid
  rw [List.getElem_append_right (by rw [markV_length, List.length_take]; omega)]
  simp [markV_length, Nat.min_eq_left (Nat.le_of_lt h)]
theorem mid_step (k : Int) (xs : List Pv) (j : Nat) (h : j < xs.length) : (mid k xs j).set j (markV1 (endV k (xs.take j)) xs[j]) = mid k xs (j + 1) := by
  unfold mid
  rw [List.take_succ_eq_append_getElem h, markV_snoc, List.drop_eq_getElem_cons h, List.set_append_right _ _ (by rw [markV_length]; simp; omega), markV_length]
  simp only [List.length_take, Nat.min_eq_left (Nat.le_of_lt h), Nat.sub_self, List.set_cons_zero, List.append_assoc]
  rfl

/-- One production of one's own gets another head, and other symbols, as many. -/
theorem OG.turn {w w1 : World} {base g cap j : Nat} {xs : List Pv} {x' : Pv} (h : OG w base (some ⟨g, 0, none⟩) cap xs) (hj : j < xs.length) (hK : x'.sl = xs[j].sl) (hl : x'.p.body.length = xs[j].p.body.length)
    (hf : Fr (OB xs[j].K) (OB xs[j].K) (w.setCell ⟨g, j * 2, none⟩ (.int .i64 x'.p.head)) w1) (hb : w1.ownsRow base 68 3 xs[j].sl xs[j].p.body.length (symCells x'.p.body)) : OG w1 base (some ⟨g, 0, none⟩) cap (xs.set j x') := by
  have hne : ∀ i (hi : i < xs.length) b, xs[i].sl.ownBlock = some b → b ≠ g := fun i hi b hb e => own_ne h.o (h.d i hi) (by decide) g rfl (by rw [hb, e])
  have hOB : ∀ b, OB xs[j].K b → xs[j].sl.ownBlock = some b := fun b hb => by
    unfold OB at hb
    unfold Pv.sl
    cases hk : xs[j].K with
    | none => rw [hk] at hb; cases hb
    | some a => rw [hk] at hb; exact hb
  refine ⟨?_, fun i hi => ?_, fun i k hi hk hik b => ?_⟩
  · rw [List.length_set]
    refine hf.ownsRow ?_ (fun b hb hO => hne j hj b (hOB b hO) (by injection hb with hb; exact hb.symm))
    have h1 := own_setN h.o (j * 2) (by omega) (.int .i64 x'.p.head)
    have e : (pvCells xs).set (j * 2) (.int .i64 x'.p.head) = pvCells (xs.set j x') := by
      rw [← pvCells_set xs x' j hj, hK]
      have e2 := (pvCells_get xs j hj).2
      have e3 : ((pvCells xs).set (j * 2) (.int .i64 x'.p.head))[j * 2 + 1]? = some xs[j].sl := by rw [List.getElem?_set_ne (by omega)]; exact e2
      obtain ⟨h1, h2⟩ := List.getElem?_eq_some_iff.1 e3
      rw [← h2]
      exact (List.set_getElem_self h1).symm
    rw [e] at h1
    exact h1
  · rw [List.getElem_set]
    split
    · rename_i e
      subst e
      rw [hK, hl]; exact hb
    · have hi' : i < xs.length := by simpa using hi
      refine hf.ownsRow (own_far (h.d i hi') (fun b hb => hne i hi' b hb) _) (fun b hb hO => ?_)
      exact h.ap i j hi' hj (by omega) b hb (hOB b hO)
  · have hi' : i < xs.length := by simpa using hi
    have hk' : k < xs.length := by simpa using hk
    have e1 : (xs.set j x')[i].sl = xs[i].sl := by
      rw [List.getElem_set]
      split
      · rename_i e; subst e; exact hK
      · rfl
    have e2 : (xs.set j x')[k].sl = xs[k].sl := by
      rw [List.getElem_set]
      split
      · rename_i e; subst e; exact hK
      · rfl
    rw [e1, e2]
    exact h.ap i k hi' hk' hik b

/-- The blocks of productions that are one's own. -/
def OF (A : Option Addr) (xs : List Pv) (k : Nat) : Prop := OB A k ∨ ∃ x ∈ xs, OB x.K k
theorem OG.ge {w : World} {base cap : Nat} {A : Option Addr} {xs : List Pv} (h : OG w base A cap xs) {k : Nat} (hk : OF A xs k) : base ≤ k ∧ k < w.heap.size := by
  rcases hk with hk | ⟨x, hx, hk⟩
  · exact OB.ge h.o hk
  · obtain ⟨i, hi, rfl⟩ := List.getElem_of_mem hx
    exact OB.ge (h.d i hi) hk

set_option maxRecDepth 100000 in
set_option maxHeartbeats 2000000 in
theorem markPO_any (base : Nat) (A : Option Addr) (cap : Nat) (xs : List Pv) (w : World) (hop : OG w base A cap xs) (hm : xs.length ≤ 1048576) (hs : ∀ x ∈ xs, x.p.body.length ≤ 1048576) :
    Calls Try.prog 33 #[.slice A xs.length cap, .int .i64 1] w fun e w' => e = .returned (.int .i64 (endV 1 xs)) ∧ OG w' base A cap (markV 1 xs) ∧ Fr (OF A xs) (OF A xs) w w' := by
  have HO := Lib.hid hop
  have HS := Lib.hid hs
  clear hop hs
  obtain ⟨n, hn⟩ : ∃ n, xs.length = n := ⟨_, rfl⟩
  have HN := Lib.hid hn
  rw [hn] at hm ⊢
  clear hn
  go_enter Try.func33, Try.ntmps33
  go_wp2
  go_loopw [1, 5] (fun q i wr => ∃ (j : Nat), i = .int .i64 j ∧ q = .int .i64 (endV 1 (xs.take j)) ∧ j ≤ n ∧ Hid (OG wr base A cap (mid 1 xs j)) ∧ Hid (Fr (OF A xs) (OF A xs) w wr)) (fun _ i _ => n - (intOf i).toNat)
  case atStart => exact ⟨0, rfl, rfl, Nat.zero_le _, HO, Fr.refl _ _⟩
  case round =>
    obtain ⟨j, rfl, rfl, hj, HW, HG⟩ := hrel
    by_cases hlt : j < n
    · have hlt' : (j : Int) < (n : Int) := by omega
      have hml : (mid 1 xs j).length = n := by rw [mid_length]; exact HN.out
      have hjx : j < xs.length := by rw [HN.out]; exact hlt
      have hoO := HW.out.o
      rw [hml] at hoO
      obtain ⟨g, cap', hv, hg1, hg2⟩ := own_some hoO (by omega)
      injection hv with e1 _ e2
      subst e1 e2
      obtain ⟨q0, q1⟩ := pvCells_get (mid 1 xs j) j (by omega)
      have hmx := mid_at 1 xs j hjx
      rw [hmx] at q0 q1
      have v0 := own_cellN hoO _ _ q0
      have c1 := own_cellN hoO _ _ q1
      unfold Pv.sl at c1
      have f0 : wr.frozen? ⟨g, j * 2, none⟩ = false := own_frozen hoO _
      have hbd := endV_bound (xs.take j) 1 (fun x hx => HS.out x (List.mem_of_mem_take hx))
      have hz := HS.out _ (List.getElem_mem hjx)
      have htl : (xs.take j).length ≤ 1048576 := by rw [List.length_take]; omega
      have HEV : Hid (endV 1 (xs.take (j + 1)) = endV 1 (xs.take j) + 1 + 3 * (xs[j].p.body.length : Int)) := by
        show _ = _
        rw [List.take_succ_eq_append_getElem hjx, endV_snoc]; rfl
      have HST := Lib.hid (mid_step 1 xs j hjx)
      have hd := HW.out.d j (by omega)
      rw [hmx] at hd
      have hdb : (wr.setCell ⟨g, j * 2, none⟩ (.int .i64 (endV 1 (xs.take j)))).ownsRow base 68 3 (.slice xs[j].K xs[j].p.body.length xs[j].kc) xs[j].p.body.length (symCells xs[j].p.body) := by
        refine own_far hd (fun b hb e => own_ne hoO hd (by decide) g rfl (by rw [hb, e])) _
      have HMX := Lib.hid hmx
      have HJ : Hid (xs[j] ∈ xs) := List.getElem_mem hjx
      generalize hek : endV 1 (xs.take j) = k at *
      have HMS := Lib.hid (markSO_any base xs[j].K xs[j].kc xs[j].p.body (k + 1) (wr.setCell ⟨g, j * 2, none⟩ (.int .i64 k)) hdb hz (by omega) (by omega))
      have hbl : Hid (j < (mid 1 xs j).length) := by show _ < _; omega
      obtain ⟨m, hmm⟩ : ∃ m, xs[j].p.body.length = m := ⟨_, rfl⟩
      have HMM := Lib.hid hmm
      rw [hmm] at c1 HMS hz HEV
      have hw1 : IntKind.i64.wrap (k + 1) = k + 1 := IntWalk.i64_in _ (by omega)
      clear hmm hek hdb hd q0 q1 hoO hmx hml
      go_wp2_with fail
      refine HMS.out.mono ?_
      rintro e w2 ⟨rfl, ho2, hf2⟩
      have HW2 : Hid (OG w2 base (some ⟨g, 0, none⟩) cap (mid 1 xs (j + 1))) := by
        show OG _ _ _ _ _
        rw [← HST.out]
        refine HW.out.turn hbl.out ?_ ?_ ?_ ?_
        · rw [HMX.out]; exact sl_mark _ _
        · rw [HMX.out]; exact markS_length _ _
        · rw [HMX.out]; exact hf2
        · rw [HMX.out]; exact ho2
      have HG2 : Hid (Fr (OF (some ⟨g, 0, none⟩) xs) (OF (some ⟨g, 0, none⟩) xs) w w2) :=
        (HG.out.setCell (p := ⟨g, j * 2, none⟩) (.inl rfl) _).trans (hf2.wide (fun k hk => .inr ⟨_, HJ.out, hk⟩))
      have HE2 : Hid (k + 1 + 3 * (m : Int) = endV 1 (xs.take (j + 1))) := HEV.out.symm
      clear HW HG ho2 hf2 HMS HST HEV
      rw [HMM.out, HE2.out]
      go_wp2
      go_roundw
      case rel => exact ⟨j + 1, by go_num, rfl, by omega, HW2, HG2⟩
      case measure => simp [intOf]; omega
    · have hlt' : ¬ (j : Int) < (n : Int) := by omega
      go_wp2
      go_ret
      obtain rfl : j = n := by omega
      have h := HW.out
      have hN := HN.out
      subst hN
      unfold mid at h
      rw [List.take_length, List.drop_length, List.append_nil] at h
      refine ⟨?_, h, HG.out⟩
      rw [List.take_length]; rfl

end Go.Proofs.Ytafldjbmheopjaa
