/- Least lengths, plain: whatever is reached from none by lessening, and can be lessened no more, is one and the same. -/
import Derived.Test.YtkgiklmdpdakbaaJ2
import Derived.Test.YtkgiklmdpdakbaaC6
import Derived.Maps.AppendAt
namespace Go.Proofs.Ytkgiklmdpdakbaa
open Go.RowKit
set_option linter.unusedVariables false

/-- What a list has for a head; -1 if it has none. -/
def at_ (L : List Int) (h : Int) : Int := L.getD h.toNat (-1)

def sumGo (L : List Int) : List Sy → Int → Int
  | [], n => n
  | s :: r, n => if s.head < 0 then sumGo L r (n + 1) else if at_ L s.head < 0 then -1 else sumGo L r (min (n + at_ L s.head) 9999)
def sumOf (L : List Int) (b : List Sy) : Int := sumGo L b 0

theorem sumGo_at (L : List Int) (b : List Sy) (k : Nat) (h : k < b.length) (n : Int) :
    sumGo L (b.drop k) n = if b[k].head < 0 then sumGo L (b.drop (k + 1)) (n + 1) else if at_ L b[k].head < 0 then -1 else sumGo L (b.drop (k + 1)) (min (n + at_ L b[k].head) 9999) := by
  rw [List.drop_eq_getElem_cons h]; rfl

theorem sumGo_bound (L : List Int) : ∀ (b : List Sy) (n : Int) (c : Nat), 0 ≤ n → n ≤ 9999 + c → sumGo L b n = -1 ∨ (0 ≤ sumGo L b n ∧ sumGo L b n ≤ 9999 + c + b.length)
  | [], n, c, h0, h1 => by right; simp [sumGo]; omega
  | s :: r, n, c, h0, h1 => by
    unfold sumGo
    by_cases e : s.head < 0
    · rw [if_pos e]
      rcases sumGo_bound L r (n + 1) (c + 1) (by omega) (by omega) with h | h
      · exact .inl h
      · right; simp at h ⊢; omega
    · rw [if_neg e]
      by_cases e2 : at_ L s.head < 0
      · rw [if_pos e2]; exact .inl rfl
      · rw [if_neg e2]
        rcases sumGo_bound L r (min (n + at_ L s.head) 9999) 0 (by omega) (by omega) with h | h
        · exact .inl h
        · right; simp at h ⊢; omega
theorem sumOf_bound (L : List Int) (b : List Sy) (h : b.length ≤ 160) : sumOf L b = -1 ∨ (0 ≤ sumOf L b ∧ sumOf L b ≤ 10159) := by
  rcases sumGo_bound L b 0 0 (by omega) (by omega) with e | e
  · exact .inl e
  · right; unfold sumOf; omega

def val (x : Int) : Int := if x < 0 then 20000 else x
theorem val_neg {x : Int} (h : x < 0) : val x = 20000 := if_pos h
theorem val_pos {x : Int} (h : ¬ x < 0) : val x = x := if_neg h

def Good (L : List Int) : Prop := ∀ h, -1 ≤ at_ L h ∧ at_ L h ≤ 10159
def Le (F L : List Int) : Prop := ∀ h, val (at_ F h) ≤ val (at_ L h)

theorem sumGo_mono {F L : List Int} (hL : Good L) (h : Le F L) : ∀ (b : List Sy) (n m : Int) (c : Nat), 0 ≤ n → n ≤ m → m ≤ 9999 + c → c + b.length ≤ 160 → val (sumGo F b n) ≤ val (sumGo L b m)
  | [], n, m, c, h0, h1, h2, h3 => by
    simp only [sumGo]
    rw [val_pos (by omega), val_pos (by omega)]; omega
  | s :: r, n, m, c, h0, h1, h2, h3 => by
    simp only [List.length_cons] at h3
    have hb := sumGo_bound F (s :: r) n c h0 (by omega)
    have hv : val (sumGo F (s :: r) n) ≤ 20000 := by
      simp only [List.length_cons] at hb
      rcases hb with e | e
      · rw [e]; exact Int.le_refl _
      · rw [val_pos (by omega)]; omega
    unfold sumGo at hv ⊢
    by_cases e : s.head < 0
    · rw [if_pos e, if_pos e]
      exact sumGo_mono hL h r (n + 1) (m + 1) (c + 1) (by omega) (by omega) (by omega) (by omega)
    · rw [if_neg e] at hv ⊢
      rw [if_neg e]
      by_cases e2 : at_ L s.head < 0
      · rw [if_pos e2, val_neg (x := -1) (by omega)]; exact hv
      · rw [if_neg e2]
        have h5 := h s.head
        rw [val_pos e2] at h5
        have h6 := (hL s.head).2
        by_cases e3 : at_ F s.head < 0
        · rw [val_neg e3] at h5; omega
        · rw [if_neg e3]
          rw [val_pos e3] at h5
          exact sumGo_mono hL h r (min (n + at_ F s.head) 9999) (min (m + at_ L s.head) 9999) 0 (by omega) (by omega) (by omega) (by omega)

/-- Whether a production lessens its head. -/
def Less (L : List Int) (p : Pd) : Prop := 0 ≤ sumOf L p.body ∧ (at_ L p.head < 0 ∨ sumOf L p.body < at_ L p.head)
def StableAt (L : List Int) (p : Pd) : Prop := ¬ Less L p
instance (L : List Int) (p : Pd) : Decidable (Less L p) := by unfold Less; infer_instance

inductive Reach (hd : Nat) (ps : List Pd) : List Int → Prop
  | start : Reach hd ps (List.replicate hd (-1))
  | step (L : List Int) (p : Pd) : Reach hd ps L → p ∈ ps → Less L p → Reach hd ps (L.set p.head.toNat (sumOf L p.body))

/-- What is asked of productions. -/
def Fit (hd : Nat) (ps : List Pd) : Prop := ∀ p ∈ ps, 0 ≤ p.head ∧ p.head < hd ∧ p.body.length ≤ 160 ∧ ∀ s ∈ p.body, s.head = -1 ∨ (0 ≤ s.head ∧ s.head < hd)

theorem at_set {L : List Int} {i : Nat} {x : Int} (h : i < L.length) (k : Int) : at_ (L.set i x) k = if k.toNat = i then x else at_ L k := by
  unfold at_
  rw [List.getD_eq_getElem?_getD, List.getD_eq_getElem?_getD, List.getElem?_set]
  by_cases e : i = k.toNat
  · subst e; simp [h]
  · rw [if_neg e, if_neg (by omega)]
theorem at_replicate (n : Nat) (k : Int) : at_ (List.replicate n (-1)) k = -1 := by
  unfold at_
  rw [List.getD_eq_getElem?_getD, List.getElem?_replicate]
  split <;> rfl

section
variable {hd : Nat} {ps : List Pd} {L F : List Int}
theorem Reach.length (h : Reach hd ps L) : L.length = hd := by
  induction h with
  | start => simp
  | step L p _ _ _ ih => simpa using ih
theorem Reach.good (hf : Fit hd ps) (h : Reach hd ps L) : Good L := by
  induction h with
  | start => intro k; rw [at_replicate]; omega
  | step L p hr hp hl ih =>
    intro k
    obtain ⟨h0, h1, h2, _⟩ := hf p hp
    rw [at_set (by rw [hr.length]; omega)]
    split
    · have := sumOf_bound L p.body h2
      have := hl.1
      omega
    · exact ih k
theorem Reach.le (hf : Fit hd ps) (hF : ∀ p ∈ ps, StableAt F p) (gF : Good F) (h : Reach hd ps L) : Le F L := by
  induction h with
  | start => intro k; rw [at_replicate, val_neg (x := -1) (by omega)]; have := gF k; unfold val; split <;> omega
  | step L p hr hp hl ih =>
    intro k
    obtain ⟨h0, h1, h2, _⟩ := hf p hp
    rw [at_set (by rw [hr.length]; omega)]
    split
    · rename_i e
      have hm := sumGo_mono (hr.good hf) ih p.body 0 0 0 (by omega) (by omega) (by omega) (by omega)
      have hs := hF p hp
      unfold StableAt Less at hs
      have ek : at_ F k = at_ F p.head := by unfold at_; rw [e]
      rw [ek]
      unfold sumOf at hs ⊢
      rcases sumGo_bound F p.body 0 0 (by omega) (by omega) with e1 | ⟨e1, e2⟩
      · rw [e1, val_neg (x := -1) (by omega)] at hm
        have := gF p.head
        refine Int.le_trans ?_ hm
        unfold val; split <;> omega
      · rw [val_pos (x := sumGo F p.body 0) (by omega)] at hm
        have h3 : ¬ at_ F p.head < 0 := fun h => hs ⟨e1, .inl h⟩
        have h4 : ¬ sumGo F p.body 0 < at_ F p.head := fun h => hs ⟨e1, .inr h⟩
        rw [val_pos h3]
        omega
    · exact ih k

/-- The one that can be lessened no more. -/
theorem Reach.one (hf : Fit hd ps) {L1 L2 : List Int} (h1 : Reach hd ps L1) (s1 : ∀ p ∈ ps, StableAt L1 p) (h2 : Reach hd ps L2) (s2 : ∀ p ∈ ps, StableAt L2 p) : L1 = L2 := by
  have a := h2.le hf s1 (h1.good hf)
  have b := h1.le hf s2 (h2.good hf)
  have g1 := h1.good hf
  have g2 := h2.good hf
  apply List.ext_getElem (by rw [h1.length, h2.length])
  intro i hi1 hi2
  have e1 : at_ L1 (i : Int) = L1[i] := by unfold at_; simp [hi1]
  have e2 : at_ L2 (i : Int) = L2[i] := by unfold at_; simp [hi2]
  have := a i
  have := b i
  have := g1 i
  have := g2 i
  rw [e1, e2] at *
  unfold val at *
  split at * <;> split at * <;> omega
end

/-- How much there is to be lessened. -/
def tot : List Int → Nat
  | [] => 0
  | x :: r => (val x).toNat + tot r
theorem tot_set : ∀ (L : List Int) (i : Nat) (x : Int) (h : i < L.length), 0 ≤ x → (L[i] < 0 ∧ x < 20000 ∨ x < L[i]) → tot (L.set i x) < tot L
  | y :: r, 0, x, h, h0, h1 => by
    simp only [List.getElem_cons_zero] at h1
    simp only [List.set_cons_zero, tot]
    unfold val
    split <;> split <;> omega
  | y :: r, i + 1, x, h, h0, h1 => by
    simp only [List.getElem_cons_succ] at h1
    have := tot_set r i x (by simpa using h) h0 h1
    simp only [List.set_cons_succ, tot]
    omega
theorem Less.tot {L : List Int} {p : Pd} {hd : Nat} (h : Less L p) (hl : L.length = hd) (h0 : 0 ≤ p.head) (h1 : p.head < hd) (h2 : p.body.length ≤ 160) : tot (L.set p.head.toNat (sumOf L p.body)) < tot L := by
  have hi : p.head.toNat < L.length := by omega
  have e : at_ L p.head = L[p.head.toNat] := by unfold at_; simp [hi]
  have b := sumOf_bound L p.body h2
  obtain ⟨a1, a2⟩ := h
  rw [e] at a2
  exact tot_set L _ _ hi a1 (by omega)

theorem sumGo_set {L : List Int} {i : Nat} {x : Int} (hi : i < L.length) : ∀ (b : List Sy) (n : Int), (∀ s ∈ b, 0 ≤ s.head → s.head.toNat ≠ i) → sumGo (L.set i x) b n = sumGo L b n
  | [], n, _ => rfl
  | s :: r, n, h => by
    unfold sumGo
    by_cases e : s.head < 0
    · rw [if_pos e, if_pos e]
      exact sumGo_set hi r _ (fun s hs => h s (List.mem_cons_of_mem _ hs))
    · rw [if_neg e, if_neg e]
      have e2 : at_ (L.set i x) s.head = at_ L s.head := by
        rw [at_set hi, if_neg (h s (List.mem_cons_self ..) (by omega))]
      rw [e2]
      by_cases e3 : at_ L s.head < 0
      · rw [if_pos e3, if_pos e3]
      · rw [if_neg e3, if_neg e3]
        exact sumGo_set hi r _ (fun s hs => h s (List.mem_cons_of_mem _ hs))

/-- What is stable stays so where a head is lessened that it does not have. -/
theorem StableAt.stay {L : List Int} {p q : Pd} {hd : Nat} (hl : L.length = hd) (h : StableAt L q) (hp : Less L p) (h0 : 0 ≤ p.head) (h1 : p.head < hd) (hq0 : 0 ≤ q.head) (hn : ∀ s ∈ q.body, s.head ≠ p.head) : StableAt (L.set p.head.toNat (sumOf L p.body)) q := by
  have hi : p.head.toNat < L.length := by omega
  unfold StableAt Less at *
  have e : sumOf (L.set p.head.toNat (sumOf L p.body)) q.body = sumOf L q.body := sumGo_set hi _ _ (fun s hs h2 h3 => hn s hs (by omega))
  rw [e, at_set hi]
  split
  · rename_i e2
    have e3 : at_ L q.head = at_ L p.head := by unfold at_; rw [e2]
    rw [e3] at h
    obtain ⟨a1, a2⟩ := hp
    intro ⟨b1, b2⟩
    apply h
    refine ⟨b1, ?_⟩
    omega
  · exact h
/-- A production that has lessened its head, which it does not have in its body. -/
theorem StableAt.own {L : List Int} {p : Pd} {hd : Nat} (hl : L.length = hd) (hp : Less L p) (h0 : 0 ≤ p.head) (h1 : p.head < hd) (hn : ∀ s ∈ p.body, s.head ≠ p.head) : StableAt (L.set p.head.toNat (sumOf L p.body)) p := by
  have hi : p.head.toNat < L.length := by omega
  unfold StableAt Less at *
  have e : sumOf (L.set p.head.toNat (sumOf L p.body)) p.body = sumOf L p.body := sumGo_set hi _ _ (fun s hs h2 h3 => hn s hs (by omega))
  rw [e, at_set hi, if_pos rfl]
  omega

end Go.Proofs.Ytkgiklmdpdakbaa

/- The least length of a body, by those of heads: spec.l3Body and impl.leastSum. -/
namespace Go.Proofs.Ytkgiklmdpdakbaa
open Go.RowKit
set_option linter.unusedVariables false

theorem at_row {w : World} {A : Option Addr} {L : List Int} {h : Int} (hr : Row w A (ints L)) (h0 : 0 ≤ h) (h1 : h < L.length) : ∃ b off, A = some ⟨b, off, none⟩ ∧ w.cell? ⟨b, off + h.toNat, none⟩ = some (.int .i64 (at_ L h)) := by
  obtain ⟨b, off, e, hc⟩ := hr.int (k := h.toNat) (by omega)
  refine ⟨b, off, e, ?_⟩
  rw [hc]
  unfold at_
  rw [List.getD_eq_getElem?_getD, List.getElem?_eq_getElem (by omega)]; rfl

/-- What a body may have. -/
def BodyIn (n : Nat) (ss : List Sy) : Prop := ss.length ≤ 160 ∧ ∀ s ∈ ss, s.head = -1 ∨ (0 ≤ s.head ∧ s.head < n)

set_option maxRecDepth 100000 in
set_option maxHeartbeats 2000000 in
theorem l3Body_any (ss : List Sy) (L : List Int) (a : Option Addr) (c : Nat) (A : Option Addr) (d : Nat) (w : World) (hr : Syms w a ss) (hL : Row w A (ints L)) (hb : BodyIn L.length ss) (hg : Good L) (hm : L.length ≤ 200) :
    Calls Try.prog 18 #[.slice a ss.length c, .slice A L.length d] w fun e w' => e = .returned (.int .i64 (sumOf L ss)) ∧ Below w.heap.size w w' := by
  have HR := Lib.hid hr
  have HL := Lib.hid hL
  have HG := Lib.hid hg
  have hb160 := hb.1
  have HB := Lib.hid hb.2
  clear hr hL hg hb
  go_enter Try.func18, Try.ntmps18
  go_wp2
  go_loopw [5, 6] (fun n i wr => ∃ k : Nat, k ≤ ss.length ∧ i = .int .i64 k ∧ (∃ z : Int, n = .int .i64 z ∧ 0 ≤ z ∧ z ≤ 9999 + k ∧ Hid (sumGo L (ss.drop k) z = sumOf L ss)) ∧ Below w.heap.size w wr) (fun _ i _ => ss.length - (intOf i).toNat)
  case atStart => exact ⟨0, Nat.zero_le _, rfl, ⟨0, rfl, by omega, by omega, rfl⟩, Below.refl _ _⟩
  case round =>
    obtain ⟨k, hk, rfl, ⟨z, rfl, hz0, hz1, HZ⟩, hb⟩ := hrel
    by_cases hlt : k < ss.length
    · obtain ⟨b, off, rfl, hn⟩ := (HR.out.keep hb).at_ hlt
      have hlt' : (k : Int) < (ss.length : Int) := by omega
      have hin := HB.out _ (List.getElem_mem hlt)
      have HS := Lib.hid (sumGo_at L ss k hlt z)
      obtain ⟨c0, c1, c2⟩ := hn
      generalize ss[k] = s at *
      by_cases e : s.head = -1
      · have e' : s.head < 0 := by omega
        have R : Hid (sumGo L (ss.drop (k + 1)) (z + 1) = sumOf L ss) := by
          have h1 := HS.out
          rw [if_pos (by omega)] at h1
          show _ = _
          rw [← h1]; exact HZ.out
        have E := Lib.hid e
        clear e HS HZ hin
        go_wp2
        go_roundw
        case rel => exact ⟨k + 1, by omega, by go_num, ⟨_, rfl, by omega, by omega, R⟩, hb⟩
        case measure => simp [intOf]; omega
      · obtain ⟨x, hx⟩ : ∃ x : Nat, s.head = x := ⟨s.head.toNat, by omega⟩
        have hxl : x < L.length := by omega
        obtain ⟨lb, lo, rfl, lc⟩ := at_row (HL.out.keep hb) (h := s.head) (by omega) (by omega)
        have HGx := HG.out s.head
        have HS2 : Hid (at_ L s.head < 0 → sumOf L ss = -1) := fun h => by
          have h1 := HS.out
          rw [if_neg (by omega), if_pos h] at h1
          rw [← h1]; exact HZ.out.symm
        have HS3 : Hid (¬ at_ L s.head < 0 → sumGo L (ss.drop (k + 1)) (min (z + at_ L s.head) 9999) = sumOf L ss) := fun h => by
          have h1 := HS.out
          rw [if_neg (by omega), if_neg h] at h1
          rw [← h1]; exact HZ.out
        rw [hx] at lc HGx HS2 HS3
        simp only [Int.toNat_natCast] at lc
        rw [hx] at c0 e
        have hlb := cell_lt lc
        simp only at hlb
        have e' : ¬ (x : Int) < 0 := by omega
        have hxl' : (x : Int) < (L.length : Int) := by omega
        generalize at_ L (x : Int) = v at *
        have EN := Lib.hid e
        clear HS HZ hin e
        by_cases q : v < 0
        · have Q := Lib.hid (HS2.out q)
          go_wp2
          go_ret
          exact ⟨ret_int Q.out.symm, hb⟩
        · have Q := Lib.hid (HS3.out q)
          by_cases q2 : 9999 < z + v
          · have Q2 : Hid (min (z + v) 9999 = 9999) := by show _ = _; omega
            go_wp2
            go_roundw
            case rel => exact ⟨k + 1, by omega, by go_num, ⟨9999, rfl, by omega, by omega, by rw [← Q2.out]; exact Q⟩, hb⟩
            case measure => simp [intOf]; omega
          · have Q2 : Hid (min (z + v) 9999 = z + v) := by show _ = _; omega
            go_wp2
            go_roundw
            case rel => exact ⟨k + 1, by omega, by go_num, ⟨z + v, rfl, by omega, by omega, by rw [← Q2.out]; exact Q⟩, hb⟩
            case measure => simp [intOf]; omega
    · have hlt' : ¬ (k : Int) < (ss.length : Int) := by omega
      go_wp2
      go_ret
      have := HZ.out
      rw [List.drop_of_length_le (by omega)] at this
      exact ⟨ret_int this, hb⟩

set_option maxRecDepth 100000 in
set_option maxHeartbeats 2000000 in
theorem leastSum_any (ss : List Sy) (L : List Int) (a : Option Addr) (c : Nat) (A : Option Addr) (d : Nat) (w : World) (hr : Syms w a ss) (hL : Row w A (ints L)) (hb : BodyIn L.length ss) (hg : Good L) (hm : L.length ≤ 200) :
    Calls Try.prog 24 #[.slice a ss.length c, .slice A L.length d] w fun e w' => e = .returned (.int .i64 (sumOf L ss)) ∧ Below w.heap.size w w' := by
  have HR := Lib.hid hr
  have HL := Lib.hid hL
  have HG := Lib.hid hg
  have hb160 := hb.1
  have HB := Lib.hid hb.2
  clear hr hL hg hb
  go_enter Try.func24, Try.ntmps24
  go_wp2
  go_loopw [5, 10] (fun n i wr => ∃ k : Nat, k ≤ ss.length ∧ i = .int .i64 k ∧ (∃ z : Int, n = .int .i64 z ∧ 0 ≤ z ∧ z ≤ 9999 + k ∧ Hid (sumGo L (ss.drop k) z = sumOf L ss)) ∧ Below w.heap.size w wr) (fun _ i _ => ss.length - (intOf i).toNat)
  case atStart => exact ⟨0, Nat.zero_le _, rfl, ⟨0, rfl, by omega, by omega, rfl⟩, Below.refl _ _⟩
  case round =>
    obtain ⟨k, hk, rfl, ⟨z, rfl, hz0, hz1, HZ⟩, hb⟩ := hrel
    by_cases hlt : k < ss.length
    · obtain ⟨b, off, rfl, hn⟩ := (HR.out.keep hb).at_ hlt
      have hlt' : (k : Int) < (ss.length : Int) := by omega
      have hin := HB.out _ (List.getElem_mem hlt)
      have HS := Lib.hid (sumGo_at L ss k hlt z)
      obtain ⟨c0, c1, c2⟩ := hn
      generalize ss[k] = s at *
      by_cases e : s.head = -1
      · have e' : (s.head == -1) = true := by simp; omega
        have R : Hid (sumGo L (ss.drop (k + 1)) (z + 1) = sumOf L ss) := by
          have h1 := HS.out
          rw [if_pos (by omega)] at h1
          show _ = _
          rw [← h1]; exact HZ.out
        have E := Lib.hid e
        clear e HS HZ hin
        go_wp2
        go_roundw
        case rel => exact ⟨k + 1, by omega, by go_num, ⟨_, rfl, by omega, by omega, R⟩, (hb.alloc hb.size _)⟩
        case measure => simp [intOf]; omega
      · obtain ⟨x, hx⟩ : ∃ x : Nat, s.head = x := ⟨s.head.toNat, by omega⟩
        have hxl : x < L.length := by omega
        obtain ⟨lb, lo, rfl, lc⟩ := at_row (HL.out.keep hb) (h := s.head) (by omega) (by omega)
        have HGx := HG.out s.head
        have HS2 : Hid (at_ L s.head < 0 → sumOf L ss = -1) := fun h => by
          have h1 := HS.out
          rw [if_neg (by omega), if_pos h] at h1
          rw [← h1]; exact HZ.out.symm
        have HS3 : Hid (¬ at_ L s.head < 0 → sumGo L (ss.drop (k + 1)) (min (z + at_ L s.head) 9999) = sumOf L ss) := fun h => by
          have h1 := HS.out
          rw [if_neg (by omega), if_neg h] at h1
          rw [← h1]; exact HZ.out
        rw [hx] at lc HGx HS2 HS3
        simp only [Int.toNat_natCast] at lc
        rw [hx] at c0 e
        have hlb := cell_lt lc
        simp only at hlb
        have e' : ((x : Int) == -1) = false := by simp
        have hxl' : (x : Int) < (L.length : Int) := by omega
        generalize at_ L (x : Int) = v at *
        have EN := Lib.hid e
        clear HS HZ hin e
        by_cases q : v < 0
        · have Q := Lib.hid (HS2.out q)
          go_wp2
          go_ret
          exact ⟨ret_int Q.out.symm, (hb.alloc hb.size _)⟩
        · have Q := Lib.hid (HS3.out q)
          by_cases q2 : 9999 < z + v
          · have Q2 : Hid (min (z + v) 9999 = 9999) := by show _ = _; omega
            go_wp2
            go_roundw
            case rel => exact ⟨k + 1, by omega, by go_num, ⟨9999, rfl, by omega, by omega, by rw [← Q2.out]; exact Q⟩, (hb.alloc hb.size _)⟩
            case measure => simp [intOf]; omega
          · have Q2 : Hid (min (z + v) 9999 = z + v) := by show _ = _; omega
            go_wp2
            go_roundw
            case rel => exact ⟨k + 1, by omega, by go_num, ⟨z + v, rfl, by omega, by omega, by rw [← Q2.out]; exact Q⟩, (hb.alloc hb.size _)⟩
            case measure => simp [intOf]; omega
    · have hlt' : ¬ (k : Int) < (ss.length : Int) := by omega
      go_wp2
      go_ret
      have := HZ.out
      rw [List.drop_of_length_le (by omega)] at this
      exact ⟨ret_int this, hb⟩

end Go.Proofs.Ytkgiklmdpdakbaa

/- The least lengths of heads: spec.CfgLeast. -/
namespace Go.Proofs.Ytkgiklmdpdakbaa
open Go.RowKit
set_option linter.unusedVariables false

theorem ok_fit {n : Nat} {ps : List Pd} (h : cfgOkB (n : Int) ps = true) : Fit n ps ∧ ps.length ≤ 400 ∧ 1 ≤ n ∧ n ≤ 200 := by
  unfold cfgOkB at h
  simp only [Bool.and_eq_true, decide_eq_true_eq] at h
  obtain ⟨⟨⟨h1, h2⟩, h3⟩, h4⟩ := h
  refine ⟨fun p hp => ?_, h3, by omega, by omega⟩
  obtain ⟨j, hj, rfl⟩ := List.getElem_of_mem hp
  have h5 := allOk_iff.1 h4 j hj hj
  unfold pdOkB bodyOkB at h5
  simp only [Bool.and_eq_true, decide_eq_true_eq, List.all_eq_true] at h5
  obtain ⟨⟨⟨a1, a2⟩, a3⟩, a4, a5⟩ := h5
  refine ⟨a1, a3, a4, fun s hs => ?_⟩
  have := a5 s hs
  unfold symOkB at this
  split at this
  · exact .inl (by assumption)
  · simp only [Bool.and_eq_true, decide_eq_true_eq] at this
    exact .inr ⟨this.1.1.1, this.1.1.2⟩

section
variable {w w' : World} {base : Nat} {e : TypeId} {size : Nat} {v : Value} {n : Nat} {xs : List Value}
theorem own_row {A : Option Addr} {c : Nat} (h : w.ownsRow base e 1 (.slice A n c) n xs) : Row w A xs := by
  rcases h.2 with ⟨hv, rfl⟩ | ⟨g, cap, cur, hv, _⟩
  · have := h.1; simp at this; exact .inl this
  · have hA : A = some ⟨g, 0, none⟩ := by injection hv
    subst hA
    refine .inr ⟨g, 0, rfl, fun i hi => ?_⟩
    have hc := h.cells (g := g) rfl i xs[i] (List.getElem?_eq_getElem hi)
    have e1 : (Addr.add ⟨g, 0, none⟩ i) = ⟨g, 0 + i, none⟩ := by unfold Addr.add; split <;> simp_all
    rw [e1] at hc; exact hc
theorem own_set {g cap : Nat} (h : w.ownsRow base e 1 (.slice (some ⟨g, 0, none⟩) n cap) n xs) (i : Nat) (hi : i < n) (u : Value) :
    (w.setCell ⟨g, i, none⟩ u).ownsRow base e 1 (.slice (some ⟨g, 0, none⟩) n cap) n (xs.set i u) := by
  rcases h with ⟨hl, ⟨h0, _⟩ | ⟨g', cap', cur, h0, h1, h2, h3, h4, h5, h6⟩⟩
  · cases h0
  · injection h0 with a1 a2 a3
    injection a1 with a1
    injection a1 with a1
    subst a1 a3
    have ho : Own w g e cur.toList := by unfold Own; simpa using h2
    have ho2 := ho.set_ i u
    refine ⟨by simpa using hl, .inr ⟨g, cap, (cur.toList.set i u).toArray, rfl, h1, ho2, h3, h4, by simp [h5], ?_⟩⟩
    rw [← h6]
    simp only [Nat.mul_one]
    rw [List.take_set]
theorem own_frozen {A : Addr} {cap : Nat} (h : w.ownsRow base e size (.slice (some A) n cap) n xs) (i : Nat) : w.frozen? ⟨A.block, i, none⟩ = false := by
  rcases h with ⟨hl, ⟨h0, _⟩ | ⟨g', cap', cur, h0, h1, h2, _⟩⟩
  · cases h0
  · injection h0 with a1
    injection a1 with a1
    subst a1
    simp [World.frozen?, h2]
theorem own_new1 (w : World) (e : TypeId) (base : Nat) (hb : base ≤ w.heap.size) (xs : List Value) (hx : xs.length ≤ maxLen) : (w.alloc (.cells xs.toArray e)).ownsRow base e 1 (.slice (some ⟨w.heap.size, 0, none⟩) xs.length xs.length) xs.length xs := by
  refine ⟨by simp, .inr ⟨w.heap.size, xs.length, xs.toArray, rfl, hb, ?_, Nat.le_refl _, hx, by simp, by simp⟩⟩
  exact Own.new w e xs.toArray
end

theorem ints_oneC (out : List Int) (x : Int) : ints out ++ [.int .i64 x] = ints (out ++ [x]) := by simp [ints]
theorem ints_set (L : List Int) (i : Nat) (x : Int) : (ints L).set i (.int .i64 x) = ints (L.set i x) := by simp [ints, List.map_set]
theorem info3 : (Try.prog.info? 3).map (fun i => (i.zero, i.size, i.bytes)) = some (some (.int .i64 0), 1, 8) := by kernel_rfl

/-- A list of ints that is one's own, and what was there before. -/
structure LS (W : World) (g cap : Nat) (L : List Int) (w : World) : Prop where
  o : w.ownsRow W.heap.size 3 1 (.slice (some ⟨g, 0, none⟩) L.length cap) L.length (ints L)
  b : Below W.heap.size W w

theorem LS.keep {W w w' : World} {g cap : Nat} {L : List Int} (h : LS W g cap L w) (hb : Below w.heap.size w w') : LS W g cap L w' := ⟨own_keep h.o hb, h.b.trans (hb.mono h.b.size)⟩
theorem LS.row {W w : World} {g cap : Nat} {L : List Int} (h : LS W g cap L w) : Row w (some ⟨g, 0, none⟩) (ints L) := own_row h.o
theorem LS.ge {W w : World} {g cap : Nat} {L : List Int} (h : LS W g cap L w) : W.heap.size ≤ g ∧ g < w.heap.size := h.o.lt g rfl
theorem LS.put {W w : World} {g cap : Nat} {L : List Int} (h : LS W g cap L w) (i : Nat) (hi : i < L.length) (x : Int) : LS W g cap (L.set i x) (w.setCell ⟨g, i, none⟩ (.int .i64 x)) := by
  refine ⟨?_, h.b.setCell h.ge.1 _⟩
  have := own_set h.o i hi (.int .i64 x)
  rw [ints_set] at this
  simpa using this
theorem LS.at_ {W w : World} {g cap : Nat} {L : List Int} (h : LS W g cap L w) {k : Int} (h0 : 0 ≤ k) (h1 : k < L.length) : w.cell? ⟨g, k.toNat, none⟩ = some (.int .i64 (at_ L k)) := by
  obtain ⟨b, off, e, hc⟩ := at_row h.row h0 h1
  injection e with e
  injection e with e1 e2
  subst e1 e2
  simpa using hc

/-- What the cells of a block read as. -/
def readL (g n : Nat) (w : World) : List Int := (List.range n).map fun i => match w.cell? ⟨g, i, none⟩ with | some v => intOf v | none => 0
theorem LS.read {W w : World} {g cap : Nat} {L : List Int} (h : LS W g cap L w) : readL g L.length w = L := by
  unfold readL
  apply List.ext_getElem (by simp)
  intro i h1 h2
  simp only [List.getElem_map, List.getElem_range]
  have := h.at_ (k := (i : Int)) (by omega) (by omega)
  simp only [Int.toNat_natCast] at this
  rw [this]
  simp [intOf, Go.Proofs.Ytkgiklmdpdakbaa.at_, h2]
def bN : Value → Nat
  | .bool true => 1
  | _ => 0

/-- The least lengths of heads. -/
def IsLeast (hd : Int) (ps : List Pd) (L : List Int) : Prop := if cfgOkB hd ps = true then Reach hd.toNat ps L ∧ ∀ p ∈ ps, StableAt L p else L = []
theorem IsLeast.one {hd : Int} {ps : List Pd} {L1 L2 : List Int} (h1 : IsLeast hd ps L1) (h2 : IsLeast hd ps L2) : L1 = L2 := by
  unfold IsLeast at h1 h2
  split at h1
  · rename_i h
    rw [if_pos h] at h2
    have h0 : 0 ≤ hd := by unfold cfgOkB at h; simp at h; omega
    obtain ⟨n, rfl⟩ : ∃ n : Nat, hd = n := ⟨hd.toNat, by omega⟩
    exact Reach.one (ok_fit h).1 h1.1 h1.2 h2.1 h2.2
  · rename_i h
    rw [if_neg h] at h2
    rw [h1, h2]

def LeastPost (hd : Int) (ps : List Pd) (w : World) (e : Ending) (w' : World) : Prop :=
  ∃ L A cap, e = .returned (.slice A L.length cap) ∧ w'.ownsRow w.heap.size 3 1 (.slice A L.length cap) L.length (ints L) ∧ IsLeast hd ps L ∧ Below w.heap.size w w'

end Go.Proofs.Ytkgiklmdpdakbaa

