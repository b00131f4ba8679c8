/- Marks: productions, charts and flags are marked, and flags are held against marks. -/
import Derived.Test.YtafldjbmheopjaaF6
import Derived.Test.YtafldjbmheopjaaK13
namespace Go.Proofs.Ytafldjbmheopjaa
open Go.RowKit
set_option linter.unusedVariables false

set_option maxRecDepth 100000 in
set_option maxHeartbeats 2000000 in
theorem markPdsB_any (g : Nat) (bs : List Nat) (ps : List Pd) (w : World) (hop : OP w g bs ps) (hm : ps.length ≤ 1048576) (hs : Small ps) :
    Calls Try.prog 33 #[.slice (some ⟨g, 0, none⟩) ps.length ps.length, .int .i64 1] w fun e w' => ∃ k : Int, e = .returned (.int .i64 k) ∧ 1 ≤ k ∧ k ≤ 5000000000000 ∧ Fr (PF g bs) (PF g bs) w w' := by
  have HL := Lib.hid hop.l
  have HLT := Lib.hid hop.lt
  have HS := Lib.hid hs
  have hmp := hop.mp
  clear hop hs
  go_enter Try.func33, Try.ntmps33
  go_wp2
  go_loopw [1, 5] (fun q i wr => ∃ (j : Nat), i = .int .i64 j ∧ (∃ k : Int, q = .int .i64 k ∧ 1 ≤ k ∧ k ≤ 1 + j * 4000000) ∧ j ≤ ps.length ∧ MP g bs ps wr ∧ Fr (PF g bs) (PF g bs) w wr) (fun _ i _ => ps.length - (intOf i).toNat)
  case atStart => exact ⟨0, rfl, ⟨1, rfl, by omega, by omega⟩, Nat.zero_le _, hmp, Fr.refl _ _⟩
  case round =>
    clear hmp
    obtain ⟨j, rfl, ⟨k, rfl, hk0, hk1⟩, hj, hmp, hg⟩ := hrel
    by_cases hlt : j < ps.length
    · have hlt' : (j : Int) < (ps.length : Int) := by omega
      have hjb : j < bs.length := by have := HL.out; omega
      obtain ⟨cur, ho, hl, hc⟩ := hmp.o
      have hz := HS.out _ (List.getElem_mem hlt)
      have hgb : g < bs[j] := HLT.out _ (List.getElem_mem hjb)
      have c1 : wr.cell? ⟨g, j * 2 + 1, none⟩ = some (.slice (some ⟨bs[j], 0, none⟩) ps[j].body.length ps[j].body.length) := by rw [ho.cell]; exact hc j hlt hjb
      obtain ⟨v0, hv0⟩ : ∃ v, wr.cell? ⟨g, j * 2, none⟩ = some v := ⟨_, ho.cell_ (by omega)⟩
      have f0 := ho.frozen (j * 2)
      have hgl := ho.lt
      have o1 := ho.set_ (j * 2) (.int .i64 k)
      have d1 : ∀ i (h : i < ps.length) (h' : i < bs.length), ∃ cur, Own (wr.setCell ⟨g, j * 2, none⟩ (.int .i64 k)) bs[i] 68 cur ∧ cur.length = ps[i].body.length * 3 := fun i h h' => by
        obtain ⟨cu, q1, q2⟩ := hmp.d i h h'
        exact ⟨cu, q1.far (by have := HLT.out _ (List.getElem_mem h'); simp; omega) _, q2⟩
      have g1 := hg.setCell (p := ⟨g, j * 2, none⟩) (.inl rfl) (.int .i64 k)
      have HO1 := Lib.hid o1
      have HC := Lib.hid hc
      have HD1 := Lib.hid d1
      have HG1 := Lib.hid g1
      have HLL := Lib.hid hl
      obtain ⟨cj, oj, lj⟩ := d1 j hlt hjb
      have hbj : ∃ b, bs[j] = b := ⟨_, rfl⟩
      clear hmp hg ho o1 d1 g1 hc hl
      obtain ⟨b, hb⟩ := hbj
      rw [hb] at c1 oj hgb
      have HB := Lib.hid hb
      obtain ⟨m, hm2⟩ : ∃ m, ps[j].body.length = m := ⟨_, rfl⟩
      rw [hm2] at c1 lj hz
      have HM2 := Lib.hid hm2
      clear hb hm2
      go_wp2_with fail
      refine (markSy_any b m cj (k + 1) _ oj lj hz (by omega) (by omega)).mono ?_
      rintro e w2 ⟨rfl, ⟨c2, o2, l2⟩, hg2⟩
      have hfr : Fr (PF g bs) (PF g bs) w w2 := HG1.out.trans (hg2.wide (fun k e => .inr (by rw [e, ← HB.out]; exact List.getElem_mem hjb)))
      have hmp2 : MP g bs ps w2 := by
        refine ⟨⟨_, hg2.own HO1.out (fun e => by omega), by simp [HLL.out], fun i h h' => ?_⟩, fun i h h' => ?_⟩
        · rw [List.getElem?_set_ne (by omega)]; exact HC.out i h h'
        · by_cases e : bs[i] = b
          · obtain ⟨cu, q1, q2⟩ := HD1.out i h h'
            have q3 : cu.length = ps[i].body.length * 3 := q2
            have ee : cu = cj := by
              have u1 : Own (wr.setCell ⟨g, j * 2, none⟩ (.int .i64 k)) b 68 cu := by rw [← e]; exact q1
              unfold Own at u1 oj
              rw [u1] at oj
              injection oj with oj
              injection oj with oj
              simpa using congrArg Array.toList oj
            refine ⟨c2, by rw [e]; exact o2, ?_⟩
            rw [l2, ← lj, ← ee, q3]
          · obtain ⟨cu, q1, q2⟩ := HD1.out i h h'
            exact ⟨cu, hg2.own q1 e, q2⟩
      clear HO1 HC HD1 HG1 HLL oj hg2 o2
      go_wp2
      go_roundw
      case rel => exact ⟨j + 1, by go_num, ⟨_, rfl, by omega, by omega⟩, by omega, hmp2, hfr⟩
      case measure => simp [intOf]; omega
    · have hlt' : ¬ (j : Int) < (ps.length : Int) := by omega
      go_wp2
      go_ret
      exact ⟨k, rfl, hk0, by omega, hg⟩

set_option maxRecDepth 100000 in
set_option maxHeartbeats 1000000 in
theorem markCfgB_any (hd : Int) (g : Nat) (bs : List Nat) (ps : List Pd) (w : World) (hop : OP w g bs ps) (hm : ps.length ≤ 1048576) (hs : Small ps) :
    Calls Try.prog 16 #[.agg #[.int .i64 hd, .slice (some ⟨g, 0, none⟩) ps.length ps.length], .int .i64 1] w fun e w' => ∃ k : Int, e = .returned (.int .i64 k) ∧ 1 ≤ k ∧ k ≤ 5000000000000 ∧ Fr (PF g bs) (PF g bs) w w' := by
  have HO := Lib.hid hop
  have HS := Lib.hid hs
  clear hop hs
  go_enter Try.func16, Try.ntmps16
  go_wp2_with fail
  refine (markPdsB_any g bs ps _ (HO.out.alloc _) hm HS.out).mono ?_
  rintro e w1 ⟨k, rfl, hk, hk2, hf⟩
  go_wp2
  go_ret
  exact ⟨k, rfl, hk, hk2, (Fr.of_below _ (below_box _)).trans hf⟩

set_option maxRecDepth 100000 in
set_option maxHeartbeats 2000000 in
theorem markIt_any (g n : Nat) (cur : List Value) (k : Int) (w : World) (ho : Own w g 54 cur) (hl : cur.length = n * 3) (hm : n ≤ 1048576) (hk0 : 1 ≤ k) (hk : k ≤ 10000000000000) :
    Calls Try.prog 57 #[.slice (some ⟨g, 0, none⟩) n n, .int .i64 k] w fun e w' => e = .returned (.int .i64 (k + 3 * n)) ∧ (∃ cur', Own w' g 54 cur' ∧ cur'.length = n * 3) ∧ Fr (fun j => j = g) (fun j => j = g) w w' := by
  have HO := Lib.hid ho
  have HL := Lib.hid hl
  clear ho hl
  go_enter Try.func57, Try.ntmps57
  go_wp2
  go_loopw [1, 5] (fun q i wr => ∃ (j : Nat), i = .int .i64 j ∧ q = .int .i64 (k + 3 * j) ∧ j ≤ n ∧ (∃ cur', Own wr g 54 cur' ∧ cur'.length = n * 3) ∧ Fr (fun j => j = g) (fun j => j = g) w wr) (fun _ i _ => n - (intOf i).toNat)
  case atStart => exact ⟨0, rfl, by go_num, Nat.zero_le _, ⟨cur, HO.out, HL.out⟩, Fr.refl _ _⟩
  case round =>
    obtain ⟨j, rfl, rfl, hj, ⟨cu, ho, hl⟩, hg⟩ := hrel
    by_cases hlt : j < n
    · have hlt' : (j : Int) < (n : Int) := by omega
      have hgl := ho.lt
      obtain ⟨v0, hv0⟩ : ∃ v, wr.cell? ⟨g, j * 3, none⟩ = some v := ⟨_, ho.cell_ (by omega)⟩
      obtain ⟨v1, hv1⟩ : ∃ v, wr.cell? ⟨g, j * 3 + 1, none⟩ = some v := ⟨_, ho.cell_ (by omega)⟩
      obtain ⟨v2, hv2⟩ : ∃ v, wr.cell? ⟨g, j * 3 + 2, none⟩ = some v := ⟨_, ho.cell_ (by omega)⟩
      have f0 := ho.frozen (j * 3)
      have f1 := ho.frozen (j * 3 + 1)
      have f2 := ho.frozen (j * 3 + 2)
      have A : ∀ x y z : Value, Hid ((∃ cur', Own (((wr.setCell ⟨g, j * 3, none⟩ x).setCell ⟨g, j * 3 + 1, none⟩ y).setCell ⟨g, j * 3 + 2, none⟩ z) g 54 cur' ∧ cur'.length = n * 3) ∧ Fr (fun j => j = g) (fun j => j = g) w (((wr.setCell ⟨g, j * 3, none⟩ x).setCell ⟨g, j * 3 + 1, none⟩ y).setCell ⟨g, j * 3 + 2, none⟩ z)) := fun x y z =>
        ⟨⟨_, ((ho.set_ _ _).set_ _ _).set_ _ _, by simp [hl]⟩, ((hg.setCell (p := ⟨g, j * 3, none⟩) rfl _).setCell (p := ⟨g, j * 3 + 1, none⟩) rfl _).setCell (p := ⟨g, j * 3 + 2, none⟩) rfl _⟩
      have HA := Lib.hid A
      clear ho hl hg A
      go_wp2
      go_roundw
      case rel => exact ⟨j + 1, by go_num, by go_num, by omega, (HA.out _ _ _).out.1, (HA.out _ _ _).out.2⟩
      case measure => simp [intOf]; omega
    · have hlt' : ¬ (j : Int) < (n : Int) := by omega
      go_wp2
      go_ret
      have : j = n := by omega
      subst this
      exact ⟨rfl, ⟨cu, ho, hl⟩, hg⟩

/-- The blocks of sets that are one's own. -/
def TF (g : Nat) (bs : List Nat) (k : Nat) : Prop := k = g ∨ k ∈ bs

set_option maxRecDepth 100000 in
set_option maxHeartbeats 2000000 in
theorem markSts_any (g : Nat) (bs : List Nat) (ts : List (List Sy)) (k0 : Int) (w : World) (hop : OT w g bs ts) (hm : ts.length ≤ 1048576) (hs : SmallT ts) (h0 : 1 ≤ k0) (h1 : k0 ≤ 5000000000000) :
    Calls Try.prog 34 #[.slice (some ⟨g, 0, none⟩) ts.length ts.length, .int .i64 k0] w fun e w' => ∃ k : Int, e = .returned (.int .i64 k) ∧ 1 ≤ k ∧ Fr (TF g bs) (TF g bs) w w' := by
  have HL := Lib.hid hop.l
  have HLT := Lib.hid hop.lt
  have HS := Lib.hid hs
  have ho := hop.o
  have hd : ∀ i (h : i < ts.length) (h' : i < bs.length), ∃ cur, Own w bs[i] 54 cur ∧ cur.length = ts[i].length * 3 := fun i h h' => ⟨_, hop.d i h h', symCells_length _⟩
  clear hop hs
  go_enter Try.func34, Try.ntmps34
  go_wp2
  go_loopw [1, 5] (fun q i wr => ∃ (j : Nat), i = .int .i64 j ∧ (∃ k : Int, q = .int .i64 k ∧ 1 ≤ k ∧ k ≤ 5000000000000 + j * 4000000) ∧ j ≤ ts.length ∧ Own wr g 52 (setCells bs ts) ∧ Hid (∀ i (h : i < ts.length) (h' : i < bs.length), ∃ cur, Own wr bs[i] 54 cur ∧ cur.length = ts[i].length * 3) ∧ Fr (TF g bs) (TF g bs) w wr) (fun _ i _ => ts.length - (intOf i).toNat)
  case atStart => exact ⟨0, rfl, ⟨k0, rfl, h0, by omega⟩, Nat.zero_le _, ho, hd, Fr.refl _ _⟩
  case round =>
    clear ho hd
    obtain ⟨j, rfl, ⟨k, rfl, hk0, hk1⟩, hj, ho, HD, hg⟩ := hrel
    by_cases hlt : j < ts.length
    · have hlt' : (j : Int) < (ts.length : Int) := by omega
      have hjb : j < bs.length := by have := HL.out; omega
      have hz := HS.out _ (List.getElem_mem hlt)
      have c1 : wr.cell? ⟨g, j, none⟩ = some (.slice (some ⟨bs[j], 0, none⟩) ts[j].length ts[j].length) := by rw [ho.cell]; exact setCells_get bs ts j hlt hjb
      obtain ⟨cj, oj, lj⟩ := HD.out j hlt hjb
      have hgb : g < bs[j] := HLT.out _ (List.getElem_mem hjb)
      have MK := Lib.hid (markIt_any bs[j] ts[j].length cj k wr oj lj hz (by omega) (by omega))
      have HJ : Hid (bs[j] ∈ bs) := List.getElem_mem hjb
      have HO := Lib.hid ho
      have HG := Lib.hid hg
      have KPD : Hid (∀ w2 c2, Own w2 bs[j] 54 c2 → c2.length = ts[j].length * 3 → Fr (fun q => q = bs[j]) (fun q => q = bs[j]) wr w2 → ∀ i (h : i < ts.length) (h' : i < bs.length), ∃ cur, Own w2 bs[i] 54 cur ∧ cur.length = ts[i].length * 3) := fun w2 c2 o2 l2 hf i h h' => by
        by_cases e : bs[i] = bs[j]
        · obtain ⟨cu, q1, q2⟩ := HD.out i h h'
          have ee : cu = cj := by
            have u1 : Own wr bs[j] 54 cu := by rw [← e]; exact q1
            unfold Own at u1 oj
            rw [u1] at oj
            injection oj with oj
            injection oj with oj
            simpa using congrArg Array.toList oj
          exact ⟨c2, by rw [e]; exact o2, by rw [l2, ← lj, ← ee, q2]⟩
        · obtain ⟨cu, q1, q2⟩ := HD.out i h h'
          exact ⟨cu, hf.own q1 e, q2⟩
      clear ho hg oj lj
      generalize hbj : bs[j] = b at *
      obtain ⟨m, hm2⟩ : ∃ m, ts[j].length = m := ⟨_, rfl⟩
      rw [hm2] at c1 hz MK
      rw [hm2] at KPD
      clear hm2 hbj
      go_wp2_with fail
      refine MK.out.mono ?_
      rintro e w2 ⟨rfl, ⟨c2, o2, l2⟩, hg2⟩
      have hfr : Fr (TF g bs) (TF g bs) w w2 := HG.out.trans (hg2.wide (fun q e => .inr (by rw [e]; exact HJ.out)))
      have HD2 : Hid (∀ i (h : i < ts.length) (h' : i < bs.length), ∃ cur, Own w2 bs[i] 54 cur ∧ cur.length = ts[i].length * 3) := KPD.out w2 c2 o2 l2 hg2
      have ho2 := hg2.own HO.out (fun e => by omega)
      clear o2 hg2 l2 c1
      go_wp2
      go_roundw
      case rel => exact ⟨j + 1, by go_num, ⟨_, rfl, by omega, by omega⟩, by omega, ho2, HD2, hfr⟩
      case measure => simp [intOf]; omega
    · have hlt' : ¬ (j : Int) < (ts.length : Int) := by omega
      go_wp2
      go_ret
      exact ⟨k, rfl, hk0, hg⟩

set_option maxRecDepth 100000 in
set_option maxHeartbeats 1000000 in
theorem markChart_any (g : Nat) (bs : List Nat) (ts : List (List Sy)) (k0 : Int) (w : World) (hop : OT w g bs ts) (hm : ts.length ≤ 1048576) (hs : SmallT ts) (h0 : 1 ≤ k0) (h1 : k0 ≤ 5000000000000) :
    Calls Try.prog 17 #[.agg #[.slice (some ⟨g, 0, none⟩) ts.length ts.length], .int .i64 k0] w fun e w' => ∃ k : Int, e = .returned (.int .i64 k) ∧ 1 ≤ k ∧ Fr (TF g bs) (TF g bs) w w' := by
  have HO := Lib.hid hop
  have HS := Lib.hid hs
  clear hop hs
  go_enter Try.func17, Try.ntmps17
  go_wp2_with fail
  refine (markSts_any g bs ts k0 _ (HO.out.alloc _) hm HS.out h0 h1).mono ?_
  rintro e w1 ⟨k, rfl, hk, hf⟩
  go_wp2
  go_ret
  exact ⟨k, rfl, hk, (Fr.of_below _ (below_box _)).trans hf⟩

theorem OT.range {w : World} {g : Nat} {bs : List Nat} {ts : List (List Sy)} (h : OT w g bs ts) {k : Nat} (hk : TF g bs k) : g ≤ k ∧ k < w.heap.size := by
  rcases hk with rfl | hk
  · exact ⟨Nat.le_refl _, h.o.lt⟩
  · have := h.lt k hk
    obtain ⟨i, hi, rfl⟩ := List.getElem_of_mem hk
    exact ⟨by omega, (h.d i (by rw [← h.l]; exact hi) hi).lt⟩

/-- Flags in memory. -/
theorem bools_get (B : List Bool) (i : Nat) (h : i < B.length) : (bools B)[i]? = some (.bool B[i]) := by unfold bools; rw [List.getElem?_map, List.getElem?_eq_getElem h]; rfl

set_option maxRecDepth 100000 in
set_option maxHeartbeats 1000000 in
theorem eqB_same (g g' : Nat) (B : List Bool) (w : World) (h : Own w g 4 (bools B)) (h' : Own w g' 4 (bools B)) (hm : B.length ≤ 1048576) :
    Calls Try.prog 15 #[.slice (some ⟨g, 0, none⟩) B.length B.length, .slice (some ⟨g', 0, none⟩) B.length B.length] w fun e w' => e = .returned (.bool true) ∧ Below w.heap.size w w' := by
  have HO := Lib.hid h
  have HO' := Lib.hid h'
  clear h h'
  have hne : ((B.length : Int) != (B.length : Int)) = false := by simp
  go_enter Try.func15, Try.ntmps15
  go_wp2
  go_loopw [5] (fun i wr => ∃ k : Nat, k ≤ B.length ∧ i = .int .i64 k ∧ Below w.heap.size w wr) (fun i _ => B.length - (intOf i).toNat)
  case atStart => exact ⟨0, Nat.zero_le _, rfl, Below.refl _ _⟩
  case round =>
    obtain ⟨k, hk, rfl, hb⟩ := hrel
    by_cases hlt : k < B.length
    · have hlt' : (k : Int) < (B.length : Int) := by omega
      have c0 : wr.cell? ⟨g, k, none⟩ = some (.bool B[k]) := by rw [(HO.out.keep hb).cell]; exact bools_get B k hlt
      have d0 : wr.cell? ⟨g', k, none⟩ = some (.bool B[k]) := by rw [(HO'.out.keep hb).cell]; exact bools_get B k hlt
      generalize B[k] = x at *
      have hx : (x != x) = false := by cases x <;> rfl
      go_wp2
      go_quiet (fail)
      have hb' := below_drewN hb nq
      go_wp2
      go_roundw
      case rel => exact ⟨k + 1, by omega, by go_num, hb'⟩
      case measure => simp [intOf]; omega
    · have hlt' : ¬ (k : Int) < (B.length : Int) := by omega
      go_wp2
      go_ret
      exact ⟨rfl, hb⟩

/- Flags are marked, and held against marks. -/
def m3 (k : Int) : Bool := (k % 3 == 0)
def marksB (k : Int) (n : Nat) : List Bool := (List.range n).map (fun i => m3 (k + (i : Nat)))
theorem marksB_length (k : Int) (n : Nat) : (marksB k n).length = n := by simp [marksB]
theorem marksB_succ (k : Int) (n : Nat) : marksB k (n + 1) = marksB k n ++ [m3 (k + (n : Nat))] := by unfold marksB; rw [List.range_succ, List.map_append]; rfl
theorem marksB_step (k : Int) (B : List Bool) (j : Nat) (h : j < B.length) : (marksB k j ++ B.drop j).set j (m3 (k + (j : Nat))) = marksB k (j + 1) ++ B.drop (j + 1) := by
  rw [marksB_succ, List.drop_eq_getElem_cons h, List.set_append_right _ _ (by rw [marksB_length]; omega), marksB_length]
  simp only [Nat.sub_self, List.set_cons_zero, List.append_assoc]
  rfl

set_option maxRecDepth 100000 in
set_option maxHeartbeats 1000000 in
theorem markB_any (g : Nat) (B : List Bool) (k : Int) (w : World) (h : Own w g 4 (bools B)) (hm : B.length ≤ 1048576) (hk0 : 1 ≤ k) (hk1 : k ≤ 10000000000000) :
    Calls Try.prog 18 #[.slice (some ⟨g, 0, none⟩) B.length B.length, .int .i64 k] w fun e w' => e = .returned (.int .i64 (k + B.length)) ∧ Own w' g 4 (bools (marksB k B.length)) ∧ Fr (fun j => j = g) (fun j => j = g) w w' := by
  have HO := Lib.hid h
  clear h
  go_enter Try.func18, Try.ntmps18
  go_wp2
  go_loopw [1, 5] (fun q i wr => ∃ (j : Nat), i = .int .i64 j ∧ q = .int .i64 (k + (j : Nat)) ∧ j ≤ B.length ∧ Own wr g 4 (bools (marksB k j ++ B.drop j)) ∧ Fr (fun j => j = g) (fun j => j = g) w wr) (fun _ i _ => B.length - (intOf i).toNat)
  case atStart => exact ⟨0, rfl, by go_num, Nat.zero_le _, HO.out, Fr.refl _ _⟩
  case round =>
    obtain ⟨j, rfl, rfl, hj, ho, hg⟩ := hrel
    by_cases hlt : j < B.length
    · have hlt' : (j : Int) < (B.length : Int) := by omega
      have hgl := ho.lt
      have hll : (marksB k j ++ B.drop j).length = B.length := by rw [List.length_append, marksB_length, List.length_drop]; omega
      obtain ⟨v0, hv0⟩ : ∃ v, wr.cell? ⟨g, j, none⟩ = some v := ⟨_, ho.cell_ (by rw [bools_length, hll]; exact hlt)⟩
      have f0 := ho.frozen j
      have ho2 := ho.putFlag j (m3 (k + (j : Nat)))
      rw [marksB_step k B j hlt] at ho2
      have hg2 := hg.setCell (p := ⟨g, j, none⟩) rfl (.bool (m3 (k + (j : Nat))))
      have H2 := Lib.hid (And.intro ho2 hg2)
      clear ho hg ho2 hg2 hll
      unfold m3 at H2
      go_wp2
      go_roundw
      case rel => exact ⟨j + 1, by go_num, by go_num, by omega, H2.out.1, H2.out.2⟩
      case measure => simp [intOf]; omega
    · have hlt' : ¬ (j : Int) < (B.length : Int) := by omega
      obtain rfl : j = B.length := by omega
      rw [List.drop_length, List.append_nil] at ho
      go_wp2
      go_ret
      exact ⟨rfl, ho, hg⟩

set_option maxRecDepth 100000 in
set_option maxHeartbeats 1000000 in
theorem heldB_any (g n : Nat) (k : Int) (w : World) (h : Own w g 4 (bools (marksB k n))) (hm : n ≤ 1048576) (hk0 : 1 ≤ k) (hk1 : k ≤ 10000000000000) :
    Calls Try.prog 19 #[.slice (some ⟨g, 0, none⟩) n n, .int .i64 k] w fun e w' => e = .returned (.int .i64 (k + n)) ∧ w = w' := by
  have HO := Lib.hid h
  clear h
  go_enter Try.func19, Try.ntmps19
  go_wp2
  go_loopw [1, 5] (fun q i wr => ∃ (j : Nat), i = .int .i64 j ∧ q = .int .i64 (k + (j : Nat)) ∧ j ≤ n ∧ w = wr) (fun _ i _ => n - (intOf i).toNat)
  case atStart => exact ⟨0, rfl, by go_num, Nat.zero_le _, rfl⟩
  case round =>
    obtain ⟨j, rfl, rfl, hj, rfl⟩ := hrel
    by_cases hlt : j < n
    · have hlt' : (j : Int) < (n : Int) := by omega
      have c0 : w.cell? ⟨g, j, none⟩ = some (.bool (m3 (k + (j : Nat)))) := by
        rw [HO.out.cell, bools_get _ j (by rw [marksB_length]; exact hlt)]
        simp [marksB]
      have hx : ((m3 (k + (j : Nat))) != (m3 (k + (j : Nat)))) = false := by cases m3 (k + (j : Nat)) <;> rfl
      unfold m3 at c0 hx
      go_wp2
      go_roundw
      case rel => exact ⟨j + 1, by go_num, by go_num, by omega, by first | rfl | trivial⟩
      case measure => simp [intOf]; omega
    · have hlt' : ¬ (j : Int) < (n : Int) := by omega
      obtain rfl : j = n := by omega
      go_wp2
      go_ret
      exact ⟨rfl, rfl⟩

end Go.Proofs.Ytafldjbmheopjaa
