/- Productions that are one's own are marked, and hold their marks. -/
import Derived.Test.YtafldjbmheopjaaM10
namespace Go.Proofs.Ytafldjbmheopjaa
open Go.RowKit
set_option linter.unusedVariables false

def markS (k : Int) : List Sy → List Sy
  | [] => []
  | s :: r => ⟨k, k + 1, k + 2⟩ :: markS (k + 3) r
theorem markS_length (ss : List Sy) : ∀ k, (markS k ss).length = ss.length := by
  induction ss with
  | nil => intro k; rfl
  | cons s r ih => intro k; simp [markS, ih]
theorem markS_snoc (ss : List Sy) (s : Sy) : ∀ k, markS k (ss ++ [s]) = markS k ss ++ [⟨k + 3 * ss.length, k + 3 * ss.length + 1, k + 3 * ss.length + 2⟩] := by
  induction ss with
  | nil => intro k; simp [markS]
  | cons x r ih =>
    intro k
    simp only [List.cons_append, markS, ih, List.length_cons]
    congr 3
    have : k + 3 + 3 * (r.length : Int) = k + 3 * ((r.length + 1 : Nat) : Int) := by omega
    simp only [this]
theorem markS_get (ss : List Sy) : ∀ (k : Int) (j : Nat) (h : j < (markS k ss).length), (markS k ss)[j] = ⟨k + 3 * j, k + 3 * j + 1, k + 3 * j + 2⟩ := by
  induction ss with
  | nil => intro k j h; simp [markS] at h
  | cons x r ih =>
    intro k j h
    cases j with
    | zero => simp [markS]
    | succ j =>
      simp only [markS, List.getElem_cons_succ]
      rw [ih]
      have : k + 3 + 3 * (j : Int) = k + 3 * ((j + 1 : Nat) : Int) := by omega
      simp only [this]

theorem symCells_set (ss : List Sy) (s : Sy) : ∀ (i : Nat) (h : i < ss.length), (((symCells ss).set (i * 3) (.int .i64 s.head)).set (i * 3 + 1) (.int .i64 s.low)).set (i * 3 + 2) (.int .i64 s.high) = symCells (ss.set i s) := by
  induction ss with
  | nil => intro i h; simp at h
  | cons y r ih =>
    intro i h
    cases i with
    | zero => simp [symCells]
    | succ n =>
      have := ih n (by simpa using h)
      have e : (n + 1) * 3 = n * 3 + 3 := by omega
      rw [e]
      simp only [symCells, List.set_cons_succ]
      rw [this]
theorem markS_step (ss : List Sy) (k : Int) (j : Nat) (hj : j < ss.length) : (markS k (ss.take j) ++ ss.drop j).set j ⟨k + 3 * j, k + 3 * j + 1, k + 3 * j + 2⟩ = markS k (ss.take (j + 1)) ++ ss.drop (j + 1) := by
  rw [List.take_succ_eq_append_getElem hj, markS_snoc, List.drop_eq_getElem_cons hj, List.set_append_right _ _ (by rw [markS_length]; simp; omega), markS_length]
  simp only [List.length_take, Nat.min_eq_left (Nat.le_of_lt hj), Nat.sub_self, List.set_cons_zero, List.append_assoc]
  rfl

/-- The marks are written into symbols of one's own. -/
def MarkSPost (w : World) (base : Nat) (A : Option Addr) (cap : Nat) (ss : List Sy) (k : Int) (e : Ending) (w' : World) : Prop :=
  e = .returned (.int .i64 (k + 3 * ss.length)) ∧ w'.ownsRow base 68 3 (.slice A ss.length cap) ss.length (symCells (markS k ss)) ∧ Fr (OB A) (OB A) w w'

set_option maxRecDepth 100000 in
set_option maxHeartbeats 2000000 in
theorem markSO_any (base : Nat) (A : Option Addr) (cap : Nat) (ss : List Sy) (k : Int) (w : World) (ho : w.ownsRow base 68 3 (.slice A ss.length cap) ss.length (symCells ss)) (hm : ss.length ≤ 1048576) (hk0 : 1 ≤ k) (hk : k ≤ 10000000000000) :
    Calls Try.prog 56 #[.slice A ss.length cap, .int .i64 k] w (MarkSPost w base A cap ss k) := by
  have HO := Lib.hid ho
  clear ho
  obtain ⟨n, hn⟩ : ∃ n, ss.length = n := ⟨_, rfl⟩
  have HN := Lib.hid hn
  rw [hn] at HO hm ⊢
  clear hn
  go_enter Try.func56, Try.ntmps56
  go_wp2
  go_loopw [1, 5] (fun q i wr => ∃ (j : Nat), i = .int .i64 j ∧ q = .int .i64 (k + 3 * j) ∧ j ≤ n ∧ Hid (wr.ownsRow base 68 3 (.slice A n cap) n (symCells (markS k (ss.take j) ++ ss.drop j))) ∧ Hid (Fr (OB A) (OB A) w wr)) (fun _ i _ => n - (intOf i).toNat)
  case atStart => exact ⟨0, rfl, by go_num, Nat.zero_le _, HO, Fr.refl _ _⟩
  case round =>
    obtain ⟨j, rfl, rfl, hj, HW, HG⟩ := hrel
    by_cases hlt : j < n
    · have hlt' : (j : Int) < (n : Int) := by omega
      obtain ⟨g, cap', hv, hg1, hg2⟩ := own_some HW.out (by omega)
      injection hv with e1 _ e2
      subst e1 e2
      have hjs : j < ss.length := by rw [HN.out]; exact hlt
      have hcl : (symCells (markS k (ss.take j) ++ ss.drop j)).length = n * 3 := by
        rw [symCells_length, List.length_append, markS_length, List.length_take, List.length_drop]
        have := HN.out
        omega
      obtain ⟨v0, hv0⟩ : ∃ v, wr.cell? ⟨g, j * 3, none⟩ = some v := ⟨_, own_cellN HW.out _ _ (List.getElem?_eq_getElem (by omega))⟩
      obtain ⟨v1, hv1⟩ : ∃ v, wr.cell? ⟨g, j * 3 + 1, none⟩ = some v := ⟨_, own_cellN HW.out _ _ (List.getElem?_eq_getElem (by omega))⟩
      obtain ⟨v2, hv2⟩ : ∃ v, wr.cell? ⟨g, j * 3 + 2, none⟩ = some v := ⟨_, own_cellN HW.out _ _ (List.getElem?_eq_getElem (by omega))⟩
      have f0 : wr.frozen? ⟨g, j * 3, none⟩ = false := own_frozen HW.out _
      have f1 : wr.frozen? ⟨g, j * 3 + 1, none⟩ = false := own_frozen HW.out _
      have f2 : wr.frozen? ⟨g, j * 3 + 2, none⟩ = false := own_frozen HW.out _
      have hL : (markS k (ss.take j) ++ ss.drop j).length = n := by rw [symCells_length] at hcl; omega
      have HW2 : Hid ((((wr.setCell ⟨g, j * 3, none⟩ (.int .i64 (k + 3 * j))).setCell ⟨g, j * 3 + 1, none⟩ (.int .i64 (k + 3 * j + 1))).setCell ⟨g, j * 3 + 2, none⟩ (.int .i64 (k + 3 * j + 1 + 1))).ownsRow base 68 3 (.slice (some ⟨g, 0, none⟩) n cap) n (symCells (markS k (ss.take (j + 1)) ++ ss.drop (j + 1)))) := by
        have h := own_setN (own_setN (own_setN HW.out (j * 3) (by omega) (.int .i64 (k + 3 * j))) (j * 3 + 1) (by omega) (.int .i64 (k + 3 * j + 1))) (j * 3 + 2) (by omega) (.int .i64 (k + 3 * j + 1 + 1))
        have e := symCells_set (markS k (ss.take j) ++ ss.drop j) ⟨k + 3 * j, k + 3 * j + 1, k + 3 * j + 1 + 1⟩ j (by omega)
        simp only at e
        rw [e] at h
        have e2 : k + 3 * (j : Int) + 1 + 1 = k + 3 * j + 2 := by omega
        rw [e2, markS_step ss k j hjs] at h
        rw [← e2] at h
        exact h
      have HG2 : Hid (Fr (OB (some ⟨g, 0, none⟩)) (OB (some ⟨g, 0, none⟩)) w (((wr.setCell ⟨g, j * 3, none⟩ (.int .i64 (k + 3 * j))).setCell ⟨g, j * 3 + 1, none⟩ (.int .i64 (k + 3 * j + 1))).setCell ⟨g, j * 3 + 2, none⟩ (.int .i64 (k + 3 * j + 1 + 1)))) :=
        ((HG.out.setCell (p := ⟨g, j * 3, none⟩) rfl _).setCell (p := ⟨g, j * 3 + 1, none⟩) rfl _).setCell (p := ⟨g, j * 3 + 2, none⟩) rfl _
      have hw1 : IntKind.i64.wrap (k + 3 * (j : Int) + 1) = k + 3 * (j : Int) + 1 := IntWalk.i64_in _ (by omega)
      have hw2 : IntKind.i64.wrap (k + 3 * (j : Int) + 1 + 1) = k + 3 * (j : Int) + 1 + 1 := IntWalk.i64_in _ (by omega)
      clear HW HG hcl hL
      go_wp2
      go_roundw
      case rel => exact ⟨j + 1, by go_num, by go_num, by omega, HW2, HG2⟩
      case measure => simp [intOf]; omega
    · have hlt' : ¬ (j : Int) < (n : Int) := by omega
      go_wp2
      go_ret
      obtain rfl : j = n := by omega
      have h := HW.out
      have hN := HN.out
      subst hN
      rw [List.take_length, List.drop_length, List.append_nil] at h
      exact ⟨rfl, h, HG.out⟩

end Go.Proofs.Ytafldjbmheopjaa
