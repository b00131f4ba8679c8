/- Lists of ints compared, marked and held; productions marked. -/
import Derived.Test.YtafldjbmheopjaaK12
namespace Go.Proofs.Ytafldjbmheopjaa
open Go.RowKit
set_option linter.unusedVariables false

/-- The numbers from k on. -/
def marks (k : Int) (n : Nat) : List Int := (List.range n).map fun (i : Nat) => k + (i : Int)
@[simp] theorem marks_length (k : Int) (n : Nat) : (marks k n).length = n := by simp [marks]
theorem marks_at (k : Int) (n j : Nat) (h : j < (marks k n).length) : (marks k n)[j] = k + j := by simp [marks]
theorem marks_snoc (k : Int) (n : Nat) : marks k (n + 1) = marks k n ++ [k + n] := by simp [marks, List.range_succ]

/-- The marks are written into a row of the call's own. -/
def MarkIPost (w : World) (base : Nat) (A : Option Addr) (n cap : Nat) (k : Int) (e : Ending) (w' : World) : Prop :=
  e = .returned (.int .i64 (k + n)) ∧ w'.ownsRow base 3 1 (.slice A n cap) n (ints (marks k n)) ∧ Fr (fun j => (Value.slice A n cap).ownBlock = some j) (fun j => (Value.slice A n cap).ownBlock = some j) w w'

theorem marks_set {zs : List Int} {k : Int} {j : Nat} (hj : j < zs.length) : (ints (marks k j ++ zs.drop j)).set j (.int .i64 (k + j)) = ints (marks k (j + 1) ++ zs.drop (j + 1)) := by
  rw [marks_snoc, List.drop_eq_getElem_cons hj]
  unfold ints
  rw [← List.map_set, List.set_append_right _ _ (by simp), marks_length, Nat.sub_self, List.set_cons_zero, List.append_assoc]
  rfl

set_option maxRecDepth 100000 in
set_option maxHeartbeats 2000000 in
theorem markSy_any (g n : Nat) (cur : List Value) (k : Int) (w : World) (ho : Own w g 68 cur) (hl : cur.length = n * 3) (hm : n ≤ 1048576) (hk0 : 1 ≤ k) (hk : k ≤ 10000000000000) :
    Calls Try.prog 56 #[.slice (some ⟨g, 0, none⟩) n n, .int .i64 k] w fun e w' => e = .returned (.int .i64 (k + 3 * n)) ∧ (∃ cur', Own w' g 68 cur' ∧ cur'.length = n * 3) ∧ Fr (fun j => j = g) (fun j => j = g) w w' := by
  have HO := Lib.hid ho
  have HL := Lib.hid hl
  clear ho hl
  go_enter Try.func56, Try.ntmps56
  go_wp2
  go_loopw [1, 5] (fun q i wr => ∃ (j : Nat), i = .int .i64 j ∧ q = .int .i64 (k + 3 * j) ∧ j ≤ n ∧ (∃ cur', Own wr g 68 cur' ∧ cur'.length = n * 3) ∧ Fr (fun j => j = g) (fun j => j = g) w wr) (fun _ i _ => n - (intOf i).toNat)
  case atStart => exact ⟨0, rfl, by go_num, Nat.zero_le _, ⟨cur, HO.out, HL.out⟩, Fr.refl _ _⟩
  case round =>
    obtain ⟨j, rfl, rfl, hj, ⟨cu, ho, hl⟩, hg⟩ := hrel
    by_cases hlt : j < n
    · have hlt' : (j : Int) < (n : Int) := by omega
      have hgl := ho.lt
      obtain ⟨v0, hv0⟩ : ∃ v, wr.cell? ⟨g, j * 3, none⟩ = some v := ⟨_, ho.cell_ (by omega)⟩
      obtain ⟨v1, hv1⟩ : ∃ v, wr.cell? ⟨g, j * 3 + 1, none⟩ = some v := ⟨_, ho.cell_ (by omega)⟩
      obtain ⟨v2, hv2⟩ : ∃ v, wr.cell? ⟨g, j * 3 + 2, none⟩ = some v := ⟨_, ho.cell_ (by omega)⟩
      have f0 := ho.frozen (j * 3)
      have f1 := ho.frozen (j * 3 + 1)
      have f2 := ho.frozen (j * 3 + 2)
      have A : ∀ x y z : Value, Hid ((∃ cur', Own (((wr.setCell ⟨g, j * 3, none⟩ x).setCell ⟨g, j * 3 + 1, none⟩ y).setCell ⟨g, j * 3 + 2, none⟩ z) g 68 cur' ∧ cur'.length = n * 3) ∧ Fr (fun j => j = g) (fun j => j = g) w (((wr.setCell ⟨g, j * 3, none⟩ x).setCell ⟨g, j * 3 + 1, none⟩ y).setCell ⟨g, j * 3 + 2, none⟩ z)) := fun x y z =>
        ⟨⟨_, ((ho.set_ _ _).set_ _ _).set_ _ _, by simp [hl]⟩, ((hg.setCell (p := ⟨g, j * 3, none⟩) rfl _).setCell (p := ⟨g, j * 3 + 1, none⟩) rfl _).setCell (p := ⟨g, j * 3 + 2, none⟩) rfl _⟩
      have HA := Lib.hid A
      clear ho hl hg A
      go_wp2
      go_roundw
      case rel => exact ⟨j + 1, by go_num, by go_num, by omega, (HA.out _ _ _).out.1, (HA.out _ _ _).out.2⟩
      case measure => simp [intOf]; omega
    · have hlt' : ¬ (j : Int) < (n : Int) := by omega
      go_wp2
      go_ret
      have : j = n := by omega
      subst this
      exact ⟨rfl, ⟨cu, ho, hl⟩, hg⟩

/-- The blocks of productions that are one's own. -/
def PF (g : Nat) (bs : List Nat) (k : Nat) : Prop := k = g ∨ k ∈ bs

/-- While productions are marked. -/
structure MP (g : Nat) (bs : List Nat) (ps : List Pd) (w : World) : Prop where
  o : ∃ cur, Own w g 57 cur ∧ cur.length = ps.length * 2 ∧ ∀ i (h : i < ps.length) (h' : i < bs.length), cur[i * 2 + 1]? = some (.slice (some ⟨bs[i], 0, none⟩) ps[i].body.length ps[i].body.length)
  d : ∀ i (h : i < ps.length) (h' : i < bs.length), ∃ cur, Own w bs[i] 68 cur ∧ cur.length = ps[i].body.length * 3

theorem OP.mp {w : World} {g : Nat} {bs : List Nat} {ps : List Pd} (h : OP w g bs ps) : MP g bs ps w :=
  ⟨⟨_, h.o, pdCells_length bs ps h.l, fun i hi hi' => (pdCells_get bs ps i hi hi').2⟩, fun i hi hi' => ⟨_, h.d i hi hi', symCells_length _⟩⟩

set_option maxRecDepth 100000 in
set_option maxHeartbeats 2000000 in
theorem markPds_any (g : Nat) (bs : List Nat) (ps : List Pd) (w : World) (hop : OP w g bs ps) (hm : ps.length ≤ 1048576) (hs : Small ps) :
    Calls Try.prog 33 #[.slice (some ⟨g, 0, none⟩) ps.length ps.length, .int .i64 1] w fun e w' => ∃ k : Int, e = .returned (.int .i64 k) ∧ 1 ≤ k ∧ Fr (PF g bs) (PF g bs) w w' := by
  have HL := Lib.hid hop.l
  have HLT := Lib.hid hop.lt
  have HS := Lib.hid hs
  have hmp := hop.mp
  clear hop hs
  go_enter Try.func33, Try.ntmps33
  go_wp2
  go_loopw [1, 5] (fun q i wr => ∃ (j : Nat), i = .int .i64 j ∧ (∃ k : Int, q = .int .i64 k ∧ 1 ≤ k ∧ k ≤ 1 + j * 4000000) ∧ j ≤ ps.length ∧ MP g bs ps wr ∧ Fr (PF g bs) (PF g bs) w wr) (fun _ i _ => ps.length - (intOf i).toNat)
  case atStart => exact ⟨0, rfl, ⟨1, rfl, by omega, by omega⟩, Nat.zero_le _, hmp, Fr.refl _ _⟩
  case round =>
    clear hmp
    obtain ⟨j, rfl, ⟨k, rfl, hk0, hk1⟩, hj, hmp, hg⟩ := hrel
    by_cases hlt : j < ps.length
    · have hlt' : (j : Int) < (ps.length : Int) := by omega
      have hjb : j < bs.length := by have := HL.out; omega
      obtain ⟨cur, ho, hl, hc⟩ := hmp.o
      have hz := HS.out _ (List.getElem_mem hlt)
      have hgb : g < bs[j] := HLT.out _ (List.getElem_mem hjb)
      have c1 : wr.cell? ⟨g, j * 2 + 1, none⟩ = some (.slice (some ⟨bs[j], 0, none⟩) ps[j].body.length ps[j].body.length) := by rw [ho.cell]; exact hc j hlt hjb
      obtain ⟨v0, hv0⟩ : ∃ v, wr.cell? ⟨g, j * 2, none⟩ = some v := ⟨_, ho.cell_ (by omega)⟩
      have f0 := ho.frozen (j * 2)
      have hgl := ho.lt
      have o1 := ho.set_ (j * 2) (.int .i64 k)
      have d1 : ∀ i (h : i < ps.length) (h' : i < bs.length), ∃ cur, Own (wr.setCell ⟨g, j * 2, none⟩ (.int .i64 k)) bs[i] 68 cur ∧ cur.length = ps[i].body.length * 3 := fun i h h' => by
        obtain ⟨cu, q1, q2⟩ := hmp.d i h h'
        exact ⟨cu, q1.far (by have := HLT.out _ (List.getElem_mem h'); simp; omega) _, q2⟩
      have g1 := hg.setCell (p := ⟨g, j * 2, none⟩) (.inl rfl) (.int .i64 k)
      have HO1 := Lib.hid o1
      have HC := Lib.hid hc
      have HD1 := Lib.hid d1
      have HG1 := Lib.hid g1
      have HLL := Lib.hid hl
      obtain ⟨cj, oj, lj⟩ := d1 j hlt hjb
      have hbj : ∃ b, bs[j] = b := ⟨_, rfl⟩
      clear hmp hg ho o1 d1 g1 hc hl
      obtain ⟨b, hb⟩ := hbj
      rw [hb] at c1 oj hgb
      have HB := Lib.hid hb
      obtain ⟨m, hm2⟩ : ∃ m, ps[j].body.length = m := ⟨_, rfl⟩
      rw [hm2] at c1 lj hz
      have HM2 := Lib.hid hm2
      clear hb hm2
      go_wp2_with fail
      refine (markSy_any b m cj (k + 1) _ oj lj hz (by omega) (by omega)).mono ?_
      rintro e w2 ⟨rfl, ⟨c2, o2, l2⟩, hg2⟩
      have hfr : Fr (PF g bs) (PF g bs) w w2 := HG1.out.trans (hg2.wide (fun k e => .inr (by rw [e, ← HB.out]; exact List.getElem_mem hjb)))
      have hmp2 : MP g bs ps w2 := by
        refine ⟨⟨_, hg2.own HO1.out (fun e => by omega), by simp [HLL.out], fun i h h' => ?_⟩, fun i h h' => ?_⟩
        · rw [List.getElem?_set_ne (by omega)]; exact HC.out i h h'
        · by_cases e : bs[i] = b
          · obtain ⟨cu, q1, q2⟩ := HD1.out i h h'
            have q3 : cu.length = ps[i].body.length * 3 := q2
            have ee : cu = cj := by
              have u1 : Own (wr.setCell ⟨g, j * 2, none⟩ (.int .i64 k)) b 68 cu := by rw [← e]; exact q1
              unfold Own at u1 oj
              rw [u1] at oj
              injection oj with oj
              injection oj with oj
              simpa using congrArg Array.toList oj
            refine ⟨c2, by rw [e]; exact o2, ?_⟩
            rw [l2, ← lj, ← ee, q3]
          · obtain ⟨cu, q1, q2⟩ := HD1.out i h h'
            exact ⟨cu, hg2.own q1 e, q2⟩
      clear HO1 HC HD1 HG1 HLL oj hg2 o2
      go_wp2
      go_roundw
      case rel => exact ⟨j + 1, by go_num, ⟨_, rfl, by omega, by omega⟩, by omega, hmp2, hfr⟩
      case measure => simp [intOf]; omega
    · have hlt' : ¬ (j : Int) < (ps.length : Int) := by omega
      go_wp2
      go_ret
      exact ⟨k, rfl, hk0, hg⟩

set_option maxRecDepth 100000 in
set_option maxHeartbeats 1000000 in
theorem markCfg_any (hd : Int) (g : Nat) (bs : List Nat) (ps : List Pd) (w : World) (hop : OP w g bs ps) (hm : ps.length ≤ 1048576) (hs : Small ps) :
    Calls Try.prog 16 #[.agg #[.int .i64 hd, .slice (some ⟨g, 0, none⟩) ps.length ps.length], .int .i64 1] w fun e w' => ∃ k : Int, e = .returned (.int .i64 k) ∧ 1 ≤ k ∧ Fr (PF g bs) (PF g bs) w w' := by
  have HO := Lib.hid hop
  have HS := Lib.hid hs
  clear hop hs
  go_enter Try.func16, Try.ntmps16
  go_wp2_with fail
  refine (markPds_any g bs ps _ (HO.out.alloc _) hm HS.out).mono ?_
  rintro e w1 ⟨k, rfl, hk, hf⟩
  go_wp2
  go_ret
  exact ⟨k, rfl, hk, (Fr.of_below _ (below_box _)).trans hf⟩

end Go.Proofs.Ytafldjbmheopjaa
