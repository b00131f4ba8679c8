/- slices.IndexFunc and slices.DeleteFunc of productions, walked for each of the two functions that are asked (written by tools/gen_m4.py). -/
import Derived.Test.YtafldjbmheopjaaM3
namespace Go.Proofs.Ytafldjbmheopjaa
open Go.RowKit
set_option linter.unusedVariables false

/-- The block that a slice lies in. -/
def OB (A : Option Addr) (k : Nat) : Prop := A.map Addr.block = some k
/-- What is left lies where it lay. -/
def DelPost (base : Nat) (A : Option Addr) (cap : Nat) (ys : List Pv) (w : World) (e : Ending) (w' : World) : Prop :=
  e = .returned (.slice A ys.length cap) ∧ w'.ownsRow base 57 2 (.slice A ys.length cap) ys.length (pvCells ys) ∧ Fr (OB A) (OB A) w w'

theorem pvCells_take : ∀ (xs : List Pv) (i : Nat), (pvCells xs).take (i * 2) = pvCells (xs.take i)
  | xs, 0 => by simp [pvCells]
  | [], i + 1 => by simp [pvCells]
  | x :: r, i + 1 => by
    rw [show (i + 1) * 2 = i * 2 + 2 by omega]
    simp [pvCells, pvCells_take r i]

/-- While productions are taken out. -/
structure DS (base g cap n : Nat) (keep : Pv → Bool) (xs : List Pv) (i j : Nat) (w0 : World) (zs : List Pv) (w : World) : Prop where
  l : zs.length = n
  t : zs.take i = (xs.take j).filter keep
  d : zs.drop j = xs.drop j
  o : w.ownsRow base 57 2 (.slice (some ⟨g, 0, none⟩) n cap) n (pvCells zs)
  f : Fr (OB (some ⟨g, 0, none⟩)) (OB (some ⟨g, 0, none⟩)) w0 w
theorem DS.keep {base g cap n i j : Nat} {keep : Pv → Bool} {xs zs : List Pv} {w0 w w' : World} (h : DS base g cap n keep xs i j w0 zs w) (hb : Below w.heap.size w w') : DS base g cap n keep xs i j w0 zs w' :=
  ⟨h.l, h.t, h.d, own_keep h.o hb, h.f.trans (Fr.of_below _ hb)⟩
theorem DS.at_ {base g cap n i j : Nat} {keep : Pv → Bool} {xs zs : List Pv} {w0 w : World} (h : DS base g cap n keep xs i j w0 zs w) (hx : xs.length = n) (hj : j < n) : w.cell? ⟨g, j * 2, none⟩ = some (.int .i64 (xs[j]'(by omega)).p.head) ∧ w.cell? ⟨g, j * 2 + 1, none⟩ = some (.slice (xs[j]'(by omega)).K (xs[j]'(by omega)).p.body.length (xs[j]'(by omega)).kc) := by
  have hl := h.l
  have e : zs[j]'(by omega) = xs[j]'(by omega) := by
    have h1 : (zs.drop j)[0]? = (xs.drop j)[0]? := by rw [h.d]
    rw [List.getElem?_drop, List.getElem?_drop, Nat.add_zero, List.getElem?_eq_getElem (by omega), List.getElem?_eq_getElem (by omega)] at h1
    injection h1
  obtain ⟨g0, g1⟩ := pvCells_get zs j (by omega)
  rw [e] at g0 g1
  exact ⟨own_cellN h.o _ _ g0, own_cellN h.o _ _ g1⟩
theorem take_succ_filter {keep : Pv → Bool} {xs : List Pv} {j : Nat} (hj : j < xs.length) : (xs.take (j + 1)).filter keep = (xs.take j).filter keep ++ if keep xs[j] then [xs[j]] else [] := by
  rw [List.take_succ_eq_append_getElem hj, List.filter_append]
  congr 1
  cases h : keep xs[j] <;> simp [h]
theorem DS.drop_ {base g cap n i j : Nat} {keep : Pv → Bool} {xs zs : List Pv} {w0 w : World} (h : DS base g cap n keep xs i j w0 zs w) (hx : xs.length = n) (hj : j < n) (hk : keep (xs[j]'(by omega)) = false) : DS base g cap n keep xs i (j + 1) w0 zs w := by
  refine ⟨h.l, ?_, ?_, h.o, h.f⟩
  · rw [take_succ_filter (by omega), hk, h.t]; simp
  · rw [← List.drop_drop, ← List.drop_drop, h.d]
theorem DS.put {base g cap n i j : Nat} {keep : Pv → Bool} {xs zs : List Pv} {w0 w : World} (h : DS base g cap n keep xs i j w0 zs w) (hx : xs.length = n) (hj : j < n) (hi : i < j) (hk : keep (xs[j]'(by omega)) = true) :
    DS base g cap n keep xs (i + 1) (j + 1) w0 (zs.set i (xs[j]'(by omega))) ((w.setCell ⟨g, i * 2, none⟩ (.int .i64 (xs[j]'(by omega)).p.head)).setCell ⟨g, i * 2 + 1, none⟩ (.slice (xs[j]'(by omega)).K (xs[j]'(by omega)).p.body.length (xs[j]'(by omega)).kc)) := by
  have hl := h.l
  refine ⟨by simpa using hl, ?_, ?_, ?_, ?_⟩
  · rw [take_succ_filter (by omega), hk, ← h.t, List.take_succ_eq_append_getElem (by simp; omega), List.take_set_of_le (Nat.le_refl _)]
    simp
  · rw [List.drop_set_of_lt (by omega), ← List.drop_drop, ← List.drop_drop, h.d]
  · have := own_setN (own_setN h.o (i * 2) (by omega) (.int .i64 (xs[j]'(by omega)).p.head)) (i * 2 + 1) (by omega) (xs[j]'(by omega)).sl
    rw [pvCells_set zs _ i (by omega)] at this
    exact this
  · exact (h.f.setCell (p := ⟨g, i * 2, none⟩) rfl _).setCell (p := ⟨g, i * 2 + 1, none⟩) rfl _
theorem DS.start {base g cap n k : Nat} {keep : Pv → Bool} {xs : List Pv} {w0 w : World} (ho : w.ownsRow base 57 2 (.slice (some ⟨g, 0, none⟩) n cap) n (pvCells xs)) (hf : Fr (OB (some ⟨g, 0, none⟩)) (OB (some ⟨g, 0, none⟩)) w0 w) (hx : xs.length = n) (hk : k < xs.length) (h1 : keep xs[k] = false) (h2 : ∀ j (h : j < xs.length), j < k → keep xs[j] = true) : DS base g cap n keep xs k (k + 1) w0 xs w := by
  refine ⟨hx, ?_, rfl, ho, hf⟩
  rw [take_succ_filter hk, h1]
  simp only [Bool.false_eq_true, if_false, List.append_nil]
  symm
  rw [List.filter_eq_self]
  intro x hx
  obtain ⟨j, hj, rfl⟩ := List.getElem_of_mem hx
  simp only [List.getElem_take]
  simp only [List.length_take] at hj
  exact h2 j (by omega) (by omega)

set_option maxRecDepth 100000 in
set_option maxHeartbeats 1000000 in
theorem idx50_34 (cp : Value) (del : Pd → Bool) (xs : List Pv) (G : Nat → Prop) (A : Option Addr) (c : Nat) (w : World) (hr : Row w A (pvCells xs)) (hF : Asked 72 cp del xs G w) (hm : xs.length ≤ 1048576) :
    Calls Try.prog 86 #[.slice A xs.length c, .func (.func 72) #[] #[cp]] w fun e w' => ∃ r : Int, e = .returned (.int .i64 r) ∧ FirstDel del xs r ∧ Below w.heap.size w w' := by
  have HR := Lib.hid hr
  have HF := Lib.hid hF
  clear hr hF
  go_enter Try.func86, Try.ntmps86
  go_wp2
  go_loopw [8] (fun i wr => ∃ k : Nat, k ≤ xs.length ∧ i = .int .i64 k ∧ Hid (∀ j (h : j < xs.length), j < k → del xs[j].p = false) ∧ Below w.heap.size w wr) (fun i _ => xs.length - (intOf i).toNat)
  case atStart => exact ⟨0, Nat.zero_le _, rfl, fun j _ hj => by omega, Below.refl _ _⟩
  case round =>
    obtain ⟨k, hk, rfl, HK, hb⟩ := hrel
    by_cases hlt : k < xs.length
    · have hpl := pvCells_length xs
      obtain ⟨b, off, rfl, c0⟩ := (HR.out.keep hb).at_ (k := k * 2) (by omega)
      obtain ⟨b', off', e, c1⟩ := (HR.out.keep hb).at_ (k := k * 2 + 1) (by omega)
      injection e with e
      injection e with e1 e2
      subst e1 e2
      obtain ⟨g0, g1⟩ := pvCells_get xs k hlt
      rw [List.getElem?_eq_getElem (by omega)] at g0 g1
      injection g0 with g0
      injection g1 with g1
      rw [g0] at c0
      rw [g1] at c1
      unfold Pv.sl at c1
      rw [← Nat.add_assoc] at c1
      clear g0 g1 hpl
      have HC := Lib.hid (HF.out xs[k] (List.getElem_mem hlt) wr (Fr.of_below _ hb))
      have hlt' : (k : Int) < (xs.length : Int) := by omega
      go_wp2_with fail
      refine HC.out.mono ?_
      rintro e w2 ⟨rfl, hb2⟩
      have hb' : Below w.heap.size w w2 := hb.trans (hb2.mono hb.size)
      clear hb2 c0 c1 hb HC
      cases q : del xs[k].p
      · have Q := Lib.hid q
        go_wp2
        go_roundw
        case rel => exact ⟨k + 1, by omega, by go_num, fun j h hj => by
          rcases Nat.lt_succ_iff_lt_or_eq.1 hj with h3 | h3
          · exact HK j h h3
          · subst h3; exact Q.out, hb'⟩
        case measure => simp [intOf]; omega
      · have Q := Lib.hid q
        go_wp2
        go_ret
        exact ⟨k, rfl, .inr ⟨k, rfl, hlt, Q.out, HK⟩, hb'⟩
    · have hlt' : ¬ (k : Int) < (xs.length : Int) := by omega
      go_wp2
      go_ret
      refine ⟨-1, rfl, .inl ⟨rfl, fun s hs => ?_⟩, hb⟩
      obtain ⟨j, hj, rfl⟩ := List.getElem_of_mem hs
      exact HK j hj (by omega)

set_option maxRecDepth 100000 in
set_option maxHeartbeats 2000000 in
theorem del32_34 (cp : Value) (del : Pd → Bool) (xs : List Pv) (base : Nat) (A : Option Addr) (cap : Nat) (w : World) (ho : w.ownsRow base 57 2 (.slice A xs.length cap) xs.length (pvCells xs)) (hF : Asked 72 cp del xs (OB A) w) (hm : xs.length ≤ 1048576) :
    Calls Try.prog 70 #[.slice A xs.length cap, .func (.func 72) #[] #[cp]] w (DelPost base A cap (xs.filter (fun x => !del x.p)) w) := by
  have HO := Lib.hid ho
  have HF := Lib.hid hF
  clear ho hF
  go_enter Try.func70, Try.ntmps70
  go_wp2_with fail
  refine (idx50_34 cp del xs (OB A) A cap _ (own_rowN HO.out) HF.out hm).mono ?_
  rintro e w1 ⟨r, rfl, hfd, hb⟩
  have HO1 := Lib.hid (own_keep HO.out hb)
  have HFr := Lib.hid (Fr.of_below (OB A) hb)
  clear HO hb
  rcases hfd with ⟨rfl, hall⟩ | ⟨k, rfl, hk, hk1, hk2⟩
  · have E : Hid (xs.filter (fun x => !del x.p) = xs) := List.filter_eq_self.2 (fun x hx => by rw [hall x hx]; rfl)
    clear hall
    go_wp2
    go_ret
    unfold DelPost
    rw [E.out]
    exact ⟨rfl, HO1.out, HFr.out⟩
  · obtain ⟨n, hn⟩ : ∃ n, xs.length = n := ⟨_, rfl⟩
    have hkn : k < n := by omega
    obtain ⟨g, cap', hv, hg1, hg2⟩ := own_some HO1.out (by omega)
    injection hv with e1 _ e2
    subst e1 e2
    have HD0 := Lib.hid (DS.start (keep := fun x => !del x.p) (by rw [← hn]; exact HO1.out) HFr.out hn hk (by simp [hk1]) (fun j h hj => by simp [hk2 j h hj]) : DS base g cap n (fun x => !del x.p) xs k (k + 1) w xs w1)
    have hcap : n ≤ cap := by
      rcases HO1.out.2 with ⟨h0, _⟩ | ⟨g', cap', cur, h0, h1, h2, h3, h4, h5, h6⟩
      · cases h0
      · injection h0 with _ _ a3
        subst a3
        omega
    have HN := Lib.hid hn
    rw [hn] at hm ⊢
    clear hk1 hk2 HO1 HFr hn
    have q0 : (((k : Nat) : Int) == -1) = false := by simp
    go_wp2
    go_loopw [5, 6] (fun iv jv wr => ∃ i j : Nat, iv = .int .i64 i ∧ jv = .int .i64 j ∧ i < j ∧ j ≤ n ∧ ∃ zs, Hid (DS base g cap n (fun x => !del x.p) xs i j w zs wr)) (fun _ j _ => n - (intOf j).toNat)
    case atStart => exact ⟨k, k + 1, rfl, by go_num, by omega, by omega, xs, HD0⟩
    case round =>
      clear HD0
      obtain ⟨i, j, rfl, rfl, hij, hjn, zs, HD⟩ := hrel
      by_cases hlt : j < n
      · have hlt' : (j : Int) < (n : Int) := by omega
        obtain ⟨c0, c1⟩ := HD.out.at_ HN.out hlt
        have hjx : j < xs.length := by rw [HN.out]; exact hlt
        have HX := Lib.hid (rfl : xs[j] = xs[j])
        have HC := Lib.hid (HF.out xs[j] (List.getElem_mem hjx) (wr.alloc (.cells #[.int .i64 xs[j].p.head, .slice xs[j].K xs[j].p.body.length xs[j].kc] 57)) (HD.out.f.trans (Fr.of_below _ (below_box _))))
        have hzs := HD.out.l
        have hgl : g < wr.heap.size := (own_some HD.out.o (by omega)).elim fun _ h => h.elim fun _ h => by obtain ⟨h1, h2, h3⟩ := h; injection h1 with h1; injection h1 with h1; injection h1 with h1; omega
        go_wp2_with fail
        refine HC.out.mono ?_
        rintro e w2 ⟨rfl, hb2⟩
        have HD2 := Lib.hid ((HD.out.keep (below_box _)).keep hb2)
        have b0 : w2.cell? ⟨wr.heap.size, 0, none⟩ = some (.int .i64 xs[j].p.head) := cell_keep hb2 (by simp)
        have b1 : w2.cell? ⟨wr.heap.size, 1, none⟩ = some (.slice xs[j].K xs[j].p.body.length xs[j].kc) := cell_keep hb2 (by simp)
        have hw2 := cell_lt b0
        simp only at hw2
        clear hb2 HC HD c0 c1
        cases q : del xs[j].p
        · have HP := Lib.hid (HD2.out.put HN.out hlt hij (by simp [q]))
          have Q := Lib.hid q
          obtain ⟨v0, hv0⟩ : ∃ v, w2.cell? ⟨g, i * 2, none⟩ = some v := by
            obtain ⟨g0, g1⟩ := pvCells_get zs i (by omega)
            exact ⟨_, own_cellN HD2.out.o _ _ g0⟩
          obtain ⟨v1, hv1⟩ : ∃ v, w2.cell? ⟨g, i * 2 + 1, none⟩ = some v := by
            obtain ⟨g0, g1⟩ := pvCells_get zs i (by omega)
            exact ⟨_, own_cellN HD2.out.o _ _ g1⟩
          have f0 : w2.frozen? ⟨g, i * 2, none⟩ = false := own_frozen HD2.out.o _
          have f1 : w2.frozen? ⟨g, i * 2 + 1, none⟩ = false := own_frozen HD2.out.o _
          have hin : (i : Int) < (n : Int) := by omega
          have hgw2 : g < w2.heap.size := by omega
          have hne : wr.heap.size ≠ g := by omega
          clear HD2 q
          go_wp2
          go_roundw
          case rel => exact ⟨i + 1, j + 1, by go_num, by go_num, by omega, by omega, _, HP⟩
          case measure => simp [intOf]; omega
        · have HP := Lib.hid (HD2.out.drop_ HN.out hlt (by simp [q]))
          have Q := Lib.hid q
          clear HD2 q
          go_wp2
          go_roundw
          case rel => exact ⟨i, j + 1, rfl, by go_num, by omega, by omega, _, HP⟩
          case measure => simp [intOf]; omega
      · obtain rfl : j = n := by omega
        have hlt' : ¬ (j : Int) < (j : Int) := by omega
        obtain ⟨w3, hcl, ho3, hf3⟩ := run_clear2 (c := cap - i) HD.out.o hij
        have HO3 := Lib.hid ho3
        have HF3 := Lib.hid hf3
        have hci : i < cap := by omega
        have hic : cap ≠ i := by omega
        clear ho3 hf3
        go_wp2
        go_ret
        have e : zs.take i = xs.filter (fun x => !del x.p) := by rw [HD.out.t, List.take_of_length_le (by have := HN.out; omega)]
        have hzl := HD.out.l
        have el : i = (xs.filter (fun x => !del x.p)).length := by rw [← e, List.length_take]; omega
        unfold DelPost
        rw [← el, ← e]
        refine ⟨rfl, ?_, HD.out.f.trans (HF3.out.wide (fun k e => by rw [e]; rfl))⟩
        have h := HO3.out
        rw [pvCells_take] at h
        exact h

set_option maxRecDepth 100000 in
set_option maxHeartbeats 1000000 in
theorem idx50_36 (cp : Value) (del : Pd → Bool) (xs : List Pv) (G : Nat → Prop) (A : Option Addr) (c : Nat) (w : World) (hr : Row w A (pvCells xs)) (hF : Asked 75 cp del xs G w) (hm : xs.length ≤ 1048576) :
    Calls Try.prog 86 #[.slice A xs.length c, .func (.func 75) #[] #[cp]] w fun e w' => ∃ r : Int, e = .returned (.int .i64 r) ∧ FirstDel del xs r ∧ Below w.heap.size w w' := by
  have HR := Lib.hid hr
  have HF := Lib.hid hF
  clear hr hF
  go_enter Try.func86, Try.ntmps86
  go_wp2
  go_loopw [8] (fun i wr => ∃ k : Nat, k ≤ xs.length ∧ i = .int .i64 k ∧ Hid (∀ j (h : j < xs.length), j < k → del xs[j].p = false) ∧ Below w.heap.size w wr) (fun i _ => xs.length - (intOf i).toNat)
  case atStart => exact ⟨0, Nat.zero_le _, rfl, fun j _ hj => by omega, Below.refl _ _⟩
  case round =>
    obtain ⟨k, hk, rfl, HK, hb⟩ := hrel
    by_cases hlt : k < xs.length
    · have hpl := pvCells_length xs
      obtain ⟨b, off, rfl, c0⟩ := (HR.out.keep hb).at_ (k := k * 2) (by omega)
      obtain ⟨b', off', e, c1⟩ := (HR.out.keep hb).at_ (k := k * 2 + 1) (by omega)
      injection e with e
      injection e with e1 e2
      subst e1 e2
      obtain ⟨g0, g1⟩ := pvCells_get xs k hlt
      rw [List.getElem?_eq_getElem (by omega)] at g0 g1
      injection g0 with g0
      injection g1 with g1
      rw [g0] at c0
      rw [g1] at c1
      unfold Pv.sl at c1
      rw [← Nat.add_assoc] at c1
      clear g0 g1 hpl
      have HC := Lib.hid (HF.out xs[k] (List.getElem_mem hlt) wr (Fr.of_below _ hb))
      have hlt' : (k : Int) < (xs.length : Int) := by omega
      go_wp2_with fail
      refine HC.out.mono ?_
      rintro e w2 ⟨rfl, hb2⟩
      have hb' : Below w.heap.size w w2 := hb.trans (hb2.mono hb.size)
      clear hb2 c0 c1 hb HC
      cases q : del xs[k].p
      · have Q := Lib.hid q
        go_wp2
        go_roundw
        case rel => exact ⟨k + 1, by omega, by go_num, fun j h hj => by
          rcases Nat.lt_succ_iff_lt_or_eq.1 hj with h3 | h3
          · exact HK j h h3
          · subst h3; exact Q.out, hb'⟩
        case measure => simp [intOf]; omega
      · have Q := Lib.hid q
        go_wp2
        go_ret
        exact ⟨k, rfl, .inr ⟨k, rfl, hlt, Q.out, HK⟩, hb'⟩
    · have hlt' : ¬ (k : Int) < (xs.length : Int) := by omega
      go_wp2
      go_ret
      refine ⟨-1, rfl, .inl ⟨rfl, fun s hs => ?_⟩, hb⟩
      obtain ⟨j, hj, rfl⟩ := List.getElem_of_mem hs
      exact HK j hj (by omega)

set_option maxRecDepth 100000 in
set_option maxHeartbeats 2000000 in
theorem del32_36 (cp : Value) (del : Pd → Bool) (xs : List Pv) (base : Nat) (A : Option Addr) (cap : Nat) (w : World) (ho : w.ownsRow base 57 2 (.slice A xs.length cap) xs.length (pvCells xs)) (hF : Asked 75 cp del xs (OB A) w) (hm : xs.length ≤ 1048576) :
    Calls Try.prog 70 #[.slice A xs.length cap, .func (.func 75) #[] #[cp]] w (DelPost base A cap (xs.filter (fun x => !del x.p)) w) := by
  have HO := Lib.hid ho
  have HF := Lib.hid hF
  clear ho hF
  go_enter Try.func70, Try.ntmps70
  go_wp2_with fail
  refine (idx50_36 cp del xs (OB A) A cap _ (own_rowN HO.out) HF.out hm).mono ?_
  rintro e w1 ⟨r, rfl, hfd, hb⟩
  have HO1 := Lib.hid (own_keep HO.out hb)
  have HFr := Lib.hid (Fr.of_below (OB A) hb)
  clear HO hb
  rcases hfd with ⟨rfl, hall⟩ | ⟨k, rfl, hk, hk1, hk2⟩
  · have E : Hid (xs.filter (fun x => !del x.p) = xs) := List.filter_eq_self.2 (fun x hx => by rw [hall x hx]; rfl)
    clear hall
    go_wp2
    go_ret
    unfold DelPost
    rw [E.out]
    exact ⟨rfl, HO1.out, HFr.out⟩
  · obtain ⟨n, hn⟩ : ∃ n, xs.length = n := ⟨_, rfl⟩
    have hkn : k < n := by omega
    obtain ⟨g, cap', hv, hg1, hg2⟩ := own_some HO1.out (by omega)
    injection hv with e1 _ e2
    subst e1 e2
    have HD0 := Lib.hid (DS.start (keep := fun x => !del x.p) (by rw [← hn]; exact HO1.out) HFr.out hn hk (by simp [hk1]) (fun j h hj => by simp [hk2 j h hj]) : DS base g cap n (fun x => !del x.p) xs k (k + 1) w xs w1)
    have hcap : n ≤ cap := by
      rcases HO1.out.2 with ⟨h0, _⟩ | ⟨g', cap', cur, h0, h1, h2, h3, h4, h5, h6⟩
      · cases h0
      · injection h0 with _ _ a3
        subst a3
        omega
    have HN := Lib.hid hn
    rw [hn] at hm ⊢
    clear hk1 hk2 HO1 HFr hn
    have q0 : (((k : Nat) : Int) == -1) = false := by simp
    go_wp2
    go_loopw [5, 6] (fun iv jv wr => ∃ i j : Nat, iv = .int .i64 i ∧ jv = .int .i64 j ∧ i < j ∧ j ≤ n ∧ ∃ zs, Hid (DS base g cap n (fun x => !del x.p) xs i j w zs wr)) (fun _ j _ => n - (intOf j).toNat)
    case atStart => exact ⟨k, k + 1, rfl, by go_num, by omega, by omega, xs, HD0⟩
    case round =>
      clear HD0
      obtain ⟨i, j, rfl, rfl, hij, hjn, zs, HD⟩ := hrel
      by_cases hlt : j < n
      · have hlt' : (j : Int) < (n : Int) := by omega
        obtain ⟨c0, c1⟩ := HD.out.at_ HN.out hlt
        have hjx : j < xs.length := by rw [HN.out]; exact hlt
        have HX := Lib.hid (rfl : xs[j] = xs[j])
        have HC := Lib.hid (HF.out xs[j] (List.getElem_mem hjx) (wr.alloc (.cells #[.int .i64 xs[j].p.head, .slice xs[j].K xs[j].p.body.length xs[j].kc] 57)) (HD.out.f.trans (Fr.of_below _ (below_box _))))
        have hzs := HD.out.l
        have hgl : g < wr.heap.size := (own_some HD.out.o (by omega)).elim fun _ h => h.elim fun _ h => by obtain ⟨h1, h2, h3⟩ := h; injection h1 with h1; injection h1 with h1; injection h1 with h1; omega
        go_wp2_with fail
        refine HC.out.mono ?_
        rintro e w2 ⟨rfl, hb2⟩
        have HD2 := Lib.hid ((HD.out.keep (below_box _)).keep hb2)
        have b0 : w2.cell? ⟨wr.heap.size, 0, none⟩ = some (.int .i64 xs[j].p.head) := cell_keep hb2 (by simp)
        have b1 : w2.cell? ⟨wr.heap.size, 1, none⟩ = some (.slice xs[j].K xs[j].p.body.length xs[j].kc) := cell_keep hb2 (by simp)
        have hw2 := cell_lt b0
        simp only at hw2
        clear hb2 HC HD c0 c1
        cases q : del xs[j].p
        · have HP := Lib.hid (HD2.out.put HN.out hlt hij (by simp [q]))
          have Q := Lib.hid q
          obtain ⟨v0, hv0⟩ : ∃ v, w2.cell? ⟨g, i * 2, none⟩ = some v := by
            obtain ⟨g0, g1⟩ := pvCells_get zs i (by omega)
            exact ⟨_, own_cellN HD2.out.o _ _ g0⟩
          obtain ⟨v1, hv1⟩ : ∃ v, w2.cell? ⟨g, i * 2 + 1, none⟩ = some v := by
            obtain ⟨g0, g1⟩ := pvCells_get zs i (by omega)
            exact ⟨_, own_cellN HD2.out.o _ _ g1⟩
          have f0 : w2.frozen? ⟨g, i * 2, none⟩ = false := own_frozen HD2.out.o _
          have f1 : w2.frozen? ⟨g, i * 2 + 1, none⟩ = false := own_frozen HD2.out.o _
          have hin : (i : Int) < (n : Int) := by omega
          have hgw2 : g < w2.heap.size := by omega
          have hne : wr.heap.size ≠ g := by omega
          clear HD2 q
          go_wp2
          go_roundw
          case rel => exact ⟨i + 1, j + 1, by go_num, by go_num, by omega, by omega, _, HP⟩
          case measure => simp [intOf]; omega
        · have HP := Lib.hid (HD2.out.drop_ HN.out hlt (by simp [q]))
          have Q := Lib.hid q
          clear HD2 q
          go_wp2
          go_roundw
          case rel => exact ⟨i, j + 1, rfl, by go_num, by omega, by omega, _, HP⟩
          case measure => simp [intOf]; omega
      · obtain rfl : j = n := by omega
        have hlt' : ¬ (j : Int) < (j : Int) := by omega
        obtain ⟨w3, hcl, ho3, hf3⟩ := run_clear2 (c := cap - i) HD.out.o hij
        have HO3 := Lib.hid ho3
        have HF3 := Lib.hid hf3
        have hci : i < cap := by omega
        have hic : cap ≠ i := by omega
        clear ho3 hf3
        go_wp2
        go_ret
        have e : zs.take i = xs.filter (fun x => !del x.p) := by rw [HD.out.t, List.take_of_length_le (by have := HN.out; omega)]
        have hzl := HD.out.l
        have el : i = (xs.filter (fun x => !del x.p)).length := by rw [← e, List.length_take]; omega
        unfold DelPost
        rw [← el, ← e]
        refine ⟨rfl, ?_, HD.out.f.trans (HF3.out.wide (fun k e => by rw [e]; rfl))⟩
        have h := HO3.out
        rw [pvCells_take] at h
        exact h

end Go.Proofs.Ytafldjbmheopjaa
