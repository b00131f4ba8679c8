/- The plain pieces, sorted: sortedPieces. -/
import Derived.Test.YtcanhkngikeeiaaU6
import Derived.Test.YtcanhkngikeeiaaG1
namespace Go.Proofs.Ytcanhkngikeeiaa
open Go.Shelf Go.RowKit Go.Lib Go.Sort
set_option linter.unusedVariables false

/-- Of the first k pieces the plain ones, each with its place. -/
def plains (ss : List ByteArray) (en : Int) : Nat → List PP
  | 0 => []
  | k + 1 => if plainB ss en k = true then plains ss en k ++ [(pieceAt ss k, (k : Int))] else plains ss en k
theorem plains_length (ss : List ByteArray) (en : Int) : ∀ k, (plains ss en k).length ≤ k
  | 0 => by simp [plains]
  | k + 1 => by unfold plains; have := plains_length ss en k; split <;> simp <;> omega
theorem plains_no {ss : List ByteArray} {en : Int} {k : Nat} (h : plainB ss en k = false) : plains ss en (k + 1) = plains ss en k := by rw [plains, if_neg (by simp [h])]
theorem plains_yes {ss : List ByteArray} {en : Int} {k : Nat} (h : plainB ss en k = true) : plains ss en (k + 1) = plains ss en k ++ [(pieceAt ss k, (k : Int))] := by rw [plains, if_pos h]
theorem mem_plains {ss : List ByteArray} {en : Int} {x : PP} : ∀ {k : Nat}, x ∈ plains ss en k ↔ ∃ i, i < k ∧ plainB ss en i = true ∧ x = (pieceAt ss i, (i : Int))
  | 0 => by simp [plains]
  | k + 1 => by
    have ih := mem_plains (ss := ss) (en := en) (x := x) (k := k)
    unfold plains
    split
    · rename_i h
      rw [List.mem_append, ih]
      constructor
      · rintro (⟨i, h1, h2, h3⟩ | h1)
        · exact ⟨i, by omega, h2, h3⟩
        · simp at h1; exact ⟨k, by omega, h, h1⟩
      · rintro ⟨i, h1, h2, h3⟩
        by_cases e : i = k
        · subst e; right; simp [h3]
        · left; exact ⟨i, by omega, h2, h3⟩
    · rename_i h
      rw [ih]
      constructor
      · rintro ⟨i, h1, h2, h3⟩; exact ⟨i, by omega, h2, h3⟩
      · rintro ⟨i, h1, h2, h3⟩
        by_cases e : i = k
        · subst e; exact absurd h2 h
        · exact ⟨i, by omega, h2, h3⟩
theorem plains_asc (ss : List ByteArray) (en : Int) : ∀ k, (plains ss en k).Pairwise (fun x y => x.2 < y.2)
  | 0 => by simp [plains]
  | k + 1 => by
    unfold plains
    split
    · rw [List.pairwise_append]
      refine ⟨plains_asc ss en k, by simp, fun x hx y hy => ?_⟩
      obtain ⟨i, h1, _, rfl⟩ := mem_plains.1 hx
      simp at hy; subst hy
      simp; omega
    · exact plains_asc ss en k

/-- The cells of pieces. -/
def cellsP (ps : List PP) : List Value := ps.flatMap enc
theorem cellsP_length (ps : List PP) : (cellsP ps).length = ps.length * 2 := by
  induction ps with
  | nil => rfl
  | cons x l ih => simp [cellsP, enc] at ih ⊢; omega
theorem cellsP_snoc (ps : List PP) (x : PP) : cellsP (ps ++ [x]) = cellsP ps ++ [.string x.1, .int .i64 x.2] := by simp [cellsP, enc]
theorem cellsP_get : ∀ (ps : List PP) (i : Nat) (h : i < ps.length), (cellsP ps)[i * 2]? = some (.string ps[i].1) ∧ (cellsP ps)[i * 2 + 1]? = some (.int .i64 ps[i].2)
  | x :: l, 0, h => by simp [cellsP, enc]
  | x :: l, i + 1, h => by
    have ih := cellsP_get l i (by simpa using h)
    have e : cellsP (x :: l) = .string x.1 :: .int .i64 x.2 :: cellsP l := by simp [cellsP, enc]
    have e1 : (i + 1) * 2 = i * 2 + 2 := by omega
    rw [e, e1]
    simpa using ih

/-- Pieces in memory, from a place on. -/
def PRow (w : World) (a : Option Addr) (ps : List PP) : Prop :=
  ps = [] ∨ ∃ b off, a = some ⟨b, off, none⟩ ∧ ∀ i (h : i < ps.length), w.cell? ⟨b, off + i * 2, none⟩ = some (.string ps[i].1) ∧ w.cell? ⟨b, off + i * 2 + 1, none⟩ = some (.int .i64 ps[i].2)
theorem PRow.keep {w w' : World} {a : Option Addr} {ps : List PP} (h : PRow w a ps) (hb : Below w.heap.size w w') : PRow w' a ps := by
  rcases h with h | ⟨b, off, e, h⟩
  · exact .inl h
  · exact .inr ⟨b, off, e, fun i hi => ⟨cell_keep hb (h i hi).1, cell_keep hb (h i hi).2⟩⟩

/-- While pieces are gathered. -/
structure PS (w0 : World) (a : Option Addr) (c : Nat) (ss : List ByteArray) (en : Int) (ps : List PP) (v : Value) (w : World) : Prop where
  x : Own w w0.heap.size 25 [.slice a ss.length c, .int .i64 en]
  o : w.ownsRow (w0.heap.size + 1) 105 2 v ps.length (cellsP ps)
  b : Below w0.heap.size w0 w
section
variable {w0 w w' : World} {a : Option Addr} {c : Nat} {ss : List ByteArray} {en : Int} {ps ps' : List PP} {v v' : Value}
theorem PS.keep (h : PS w0 a c ss en ps v w) (hb : Below w.heap.size w w') : PS w0 a c ss en ps v w' := ⟨h.x.keep hb, own_keep h.o hb, h.b.trans (hb.mono h.b.size)⟩
theorem PS.alloc (h : PS w0 a c ss en ps v w) (o : Obj) : PS w0 a c ss en ps v (w.alloc o) := h.keep (below_box o)
theorem own_touch' {b : Nat} {t : TypeId} {xs : List Value} {o : Option Nat} (h : Own w b t xs) (hg : w.grownBy w' o) (hne : o ≠ some b) : Own w' b t xs := (hg.block b h.lt (fun e => hne e.symm)).trans h
theorem PS.put (h : PS w0 a c ss en ps v w) (hg : w.grownBy w' v.ownBlock) (ho : w'.ownsRow (w0.heap.size + 1) 105 2 v' ps'.length (cellsP ps')) : PS w0 a c ss en ps' v' w' :=
  ⟨own_touch' h.x hg (fun e => by have := (h.o.lt _ e).1; omega), ho, h.b.grown hg h.b.size (fun k hk => by have := (h.o.lt _ hk).1; omega)⟩
theorem PS.c0 (h : PS w0 a c ss en ps v w) : w.cell? ⟨w0.heap.size, 0, none⟩ = some (.slice a ss.length c) := by rw [h.x.cell]; rfl
theorem PS.c1 (h : PS w0 a c ss en ps v w) : w.cell? ⟨w0.heap.size, 1, none⟩ = some (.int .i64 en) := by rw [h.x.cell]; rfl
end
theorem info105 : (Try.prog.info? 105).map (fun i => (i.zero, i.size, i.bytes)) = some (some (.agg #[.string ByteArray.empty, .int .i64 0]), 2, 24) := by kernel_rfl

/-- The world behind the sort, below the row. -/
theorem swk_below {blk off B : Nat} {dk : Array PP} {w0 W : World} (h : SWK enc 2 w0 blk off dk W) (hB : B ≤ blk) (hblk : blk < w0.heap.size) : Below B w0 W := by
  obtain ⟨n, os, rfl⟩ := h
  refine ⟨rfl, rfl, rfl, ?_, fun k hk => ?_⟩
  · unfold sortWorldK; rw [size_grow, size_putRowK]; show w0.heap.size ≤ w0.heap.size + _; omega
  · show (((Sort.ahead w0 n).heap.modify blk _) ++ os)[k]? = _
    rw [Array.getElem?_append_left (by simp; show k < w0.heap.size; omega), Array.getElem?_modify, if_neg (by omega)]
    rfl

/-- What sortedPieces answers. -/
structure Srt (ss : List ByteArray) (en : Int) (ps : List PP) : Prop where
  asc : ps.Pairwise (fun x y => ltL x y = true)
  mem : ∀ x, x ∈ ps ↔ ∃ i, i < ss.length ∧ plainB ss en i = true ∧ x = (pieceAt ss i, (i : Int))
  len : ps.length ≤ ss.length
def SortPost (ss : List ByteArray) (en : Int) (w : World) (e : Ending) (w' : World) : Prop :=
  ∃ A cap ps, e = .returned (.slice A ps.length cap) ∧ ps.length ≤ cap ∧ cap ≤ maxLen ∧ PRow w' A ps ∧ Below w.heap.size w w' ∧ Srt ss en ps ∧ ∀ p, A = some p → p.block < w'.heap.size

theorem ltL_total {x y : PP} (h : ltL y x = false) (hne : x.2 ≠ y.2) : ltL x y = true := by
  rw [ltL_no] at h
  rw [ltL_iff]
  by_cases h1 : tl x < tl y
  · exact .inl h1
  · by_cases h2 : tl y < tl x
    · exact absurd (.inl h2) h
    · have e : tl x = tl y := List.le_antisymm (List.not_lt.1 h2) (List.not_lt.1 h1)
      have h3 : ¬ y.2 < x.2 := fun q => h (.inr ⟨e.symm, q⟩)
      exact .inr ⟨e, by omega⟩

theorem srt_of {ss : List ByteArray} {en : Int} {d' : Array PP} (h : Merged 0 (plains ss en ss.length).toArray.size (plains ss en ss.length).toArray d') : Srt ss en d'.toList := by
  obtain ⟨⟨h1, h2, h3⟩, h4⟩ := h
  have e1 : d'.extract 0 (plains ss en ss.length).toArray.size = d' := by rw [← h1]; exact Array.extract_size
  rw [e1, Array.extract_size] at h3
  replace h3 : d'.toList.Perm (plains ss en ss.length) := h3
  have hnd : (d'.toList.map (·.2)).Nodup := by
    refine (h3.map (·.2)).nodup_iff.2 ?_
    rw [List.Nodup, List.pairwise_map]
    exact (plains_asc ss en ss.length).imp (fun h => by omega)
  refine ⟨?_, fun x => by rw [h3.mem_iff, mem_plains], by rw [h3.length_eq]; exact plains_length _ _ _⟩
  rw [List.pairwise_iff_getElem]
  intro i j hi hj hij
  have hi' : i < d'.size := by simpa using hi
  have hj' : j < d'.size := by simpa using hj
  have := h4 i j (Nat.zero_le _) hij (by omega)
  rw [getElem!_pos d' i hi', getElem!_pos d' j hj'] at this
  refine ltL_total (by simpa using this) (fun e => ?_)
  rw [List.Nodup, List.pairwise_map, List.pairwise_iff_getElem] at hnd
  exact hnd i j hi hj hij e

set_option maxHeartbeats 1000000 in
set_option maxRecDepth 100000 in
theorem sort_nil (w : World) : Calls Try.prog 83 #[.slice none 0 0, .func (.func 84) #[] #[]] w fun e w' => e = .returned (.tuple #[]) ∧ w = w' := by
  have h92 : ∀ X, Calls Try.prog 92 #[.slice none 0 0, .int .i64 0, .int .i64 0, .func (.func 84) #[] #[]] X fun e w' => e = .returned (.tuple #[]) ∧ X = w' := by
    intro X
    go_enter Try.func92, Try.ntmps92
    go_wp2
    refine wp_loop_rounds 1 ?_
    rw [rounds_succ]
    go_wp2
    go_end0
    exact ⟨rfl, rfl⟩
  have h90 : ∀ X, Calls Try.prog 90 #[.slice none 0 0, .int .i64 0, .func (.func 84) #[] #[]] X fun e w' => e = .returned (.tuple #[]) ∧ X = w' := by
    have H := Lib.hid h92
    clear h92
    intro X
    go_enter Try.func90, Try.ntmps90
    go_wp2
    refine wp_loop_rounds 1 ?_
    rw [rounds_succ]
    go_wp2_with fail
    refine (H.out _).mono ?_
    rintro e w' ⟨rfl, rfl⟩
    go_wp2
    refine wp_loop_rounds 1 ?_
    rw [rounds_succ]
    go_wp2
    go_end0
    exact ⟨rfl, rfl⟩
  have H := Lib.hid h90
  clear h92 h90
  go_enter Try.func83, Try.ntmps83
  go_wp2_with fail
  refine (H.out _).mono ?_
  rintro e w' ⟨rfl, rfl⟩
  go_wp2
  go_end0
  exact ⟨rfl, rfl⟩

theorem holds_of_own {w : World} {base g cap : Nat} {ps : List PP} (h : w.ownsRow base 105 2 (.slice (some ⟨g, 0, none⟩) ps.length cap) ps.length (cellsP ps)) : HoldsK enc 2 w g 0 ps.toArray := by
  intro j hj
  simp only [size_flatK, List.size_toArray] at hj
  rw [get_flatK enc 2 ps.toArray j (by simpa using hj)]
  obtain ⟨i, hi⟩ : ∃ i, i = j / 2 := ⟨_, rfl⟩
  have hil : i < ps.length := by omega
  obtain ⟨k1, k2⟩ := cellsP_get ps i hil
  have hc : (cellsP ps)[j]? = some (enc ps.toArray[j / 2]!)[j % 2]! := by
    rw [← hi, getElem!_pos ps.toArray i (by simpa using hil)]
    rcases Nat.mod_two_eq_zero_or_one j with e | e
    · rw [e, show j = i * 2 by omega]; simpa [enc] using k1
    · rw [e, show j = i * 2 + 1 by omega]; simpa [enc] using k2
  have hcell := h.cells (g := g) rfl j _ hc
  have e1 : (Addr.add ⟨g, 0, none⟩ j) = ⟨g, 0 + j, none⟩ := by unfold Addr.add; split <;> simp_all
  rw [e1] at hcell
  refine ⟨hcell, ?_⟩
  rcases h.2 with ⟨h1, _⟩ | ⟨g', cap', cur, h1, _, h2, _⟩
  · cases h1
  · injection h1 with q1
    injection q1 with q1
    injection q1 with q1
    subst q1
    simp [World.frozen?, h2]
theorem prow_of_holds {w : World} {g : Nat} {d : Array PP} (h : HoldsK enc 2 w g 0 d) : PRow w (some ⟨g, 0, none⟩) d.toList := by
  refine .inr ⟨g, 0, rfl, fun i hi => ?_⟩
  have hi' : i < d.size := by simpa using hi
  have h1 := HoldsK.cells h enc_len hi' 0 (.string d[i]!.1) rfl
  have h2 := HoldsK.cells h enc_len hi' 1 (.int .i64 d[i]!.2) rfl
  rw [Addr.add_lit] at h1 h2
  rw [getElem!_pos d i hi'] at h1 h2
  exact ⟨by simpa using h1, by simpa using h2⟩

theorem cell_two_new (w : World) (t : TypeId) (x y : Value) : ∀ j u, [x, y][j]? = some u → (w.alloc (.cells #[x, y] t)).cell? ((⟨w.heap.size, 0, none⟩ : Addr).add j) = some u := by
  intro j u h
  rw [Addr.add_lit, Nat.zero_add, (Own.new w t #[x, y]).cell]
  exact h
theorem own_two {w : World} {base : Nat} {v : Value} {ps : List PP} {x : PP} (h : w.ownsRow base 105 2 v (ps.length + 1) (cellsP ps ++ [.string x.1, .int .i64 x.2])) :
    ∃ A cap, v = .slice A (ps ++ [x]).length cap ∧ w.ownsRow base 105 2 (.slice A (ps ++ [x]).length cap) (ps ++ [x]).length (cellsP (ps ++ [x])) := by
  obtain ⟨A, cap, rfl⟩ := own_form h
  have e : (ps ++ [x]).length = ps.length + 1 := by simp
  exact ⟨A, cap, by rw [e], by rw [e, cellsP_snoc]; exact h⟩

set_option maxRecDepth 100000 in
set_option maxHeartbeats 2000000 in
theorem sorted_any (a : Option Addr) (c : Nat) (ss : List ByteArray) (en : Int) (w : World) (hr : Row w a (strs ss)) (hl : ss.length ≤ 40) :
    Calls Try.prog 64 #[.agg #[.slice a ss.length c, .int .i64 en]] w (SortPost ss en w) := by
  obtain ⟨i0, hi0, hz0, hz1, hz2⟩ := info_parts info105
  have HI := Lib.hid (And.intro hi0 (And.intro hz0 (And.intro hz1 hz2)))
  clear hi0 hz0 hz1 hz2
  have HR := Lib.hid hr
  clear hr
  have HB : PS w a c ss en [] (.slice none 0 0) (w.alloc (.cells #[.slice a ss.length c, .int .i64 en] 25)) := ⟨Own.new w 25 #[.slice a ss.length c, .int .i64 en], World.ownsRow_nil _ _ _ _, below_box _⟩
  go_enter Try.func64, Try.ntmps64
  go_wp2
  generalize w.alloc (.cells #[.slice a ss.length c, .int .i64 en] 25) = w1 at HB ⊢
  go_loopw [3, 4, 5, 9] (fun x y z i wr => ∃ (k : Nat) (A : Option Addr) (cap : Nat), k ≤ ss.length ∧ i = .int .i64 k ∧ x = .slice A (plains ss en k).length cap ∧ PS w a c ss en (plains ss en k) (.slice A (plains ss en k).length cap) wr) (fun _ _ _ i _ => ss.length - (intOf i).toNat)
  case atStart => exact ⟨0, none, 0, Nat.zero_le _, rfl, rfl, HB⟩
  case round =>
    clear HB
    obtain ⟨k, A, cap, hk, rfl, rfl, HB⟩ := hrel
    have hpl := plains_length ss en k
    by_cases hlt : k < ss.length
    · have hlt' : (k : Int) < (ss.length : Int) := by omega
      have c0 := HB.c0
      have c1 := HB.c1
      have h78 := implPlain_any a c ss en k wr (HR.out.keep HB.b) hlt (by omega)
      obtain ⟨b, off, rfl, hcp⟩ := (HR.out.keep HB.b).piece hlt
      cases hP : plainB ss en k
      · rw [hP] at h78
        have H78 := Lib.hid h78
        have HQ := Lib.hid (plains_no hP)
        clear h78 hP
        go_wp2_with fail
        refine H78.out.mono ?_
        rintro e w2 ⟨rfl, hb2⟩
        replace HB := HB.keep hb2
        clear hb2 c0 c1 hcp
        go_wp2
        go_roundw
        case rel => exact ⟨k + 1, A, cap, by omega, by go_num, by rw [HQ.out], by rw [HQ.out]; exact HB⟩
        case measure => simp [intOf]; omega
      · rw [hP] at h78
        have H78 := Lib.hid h78
        have HQ := Lib.hid (plains_yes hP)
        clear h78 hP
        go_wp2_with fail
        refine H78.out.mono ?_
        rintro e w2 ⟨rfl, hb2⟩
        replace HB := HB.keep hb2
        clear hb2 c0 c1 hcp
        have hsz := HB.b.size
        have hvl := HB.x.lt
        go_wp2_with (at_builtin; refine wpList_append_own _ rfl _ _ 86 rfl (w.heap.size + 1) 105 i0 (.agg #[.string ByteArray.empty, .int .i64 0]) 2 24 Try.underlying86 HI.out.1 HI.out.2.1 HI.out.2.2.1 HI.out.2.2.2 rfl (by decide) _ _ _ rfl (HB.alloc _).o ⟨w2.heap.size, 0, none⟩ 1 1 [.string (pieceAt ss k), .int .i64 k] rfl rfl ?c1 ?c2 ?c3 ?c4 ?c5 ?_)
        case c1 => exact cell_two_new _ _ _ _
        case c2 => (intro u hu; simp at hu; rcases hu with rfl | rfl <;> rfl)
        case c3 => unfold maxLen; omega
        case c4 => omega
        case c5 => first | omega | (simp; omega)
        intro v' w5 hown' hgrow _
        obtain ⟨A5, cap5, rfl, ho5⟩ := own_two (x := (pieceAt ss k, (k : Int))) hown'
        have HB5 := (HB.alloc _).put hgrow ho5
        rw [← HQ.out] at HB5
        have HQ2 := Lib.hid (show (plains ss en k ++ [(pieceAt ss k, (k : Int))]).length = (plains ss en (k + 1)).length by rw [HQ.out])
        clear HB hgrow hown' ho5
        go_wp2
        go_roundw
        case rel => exact ⟨k + 1, A5, cap5, by omega, by go_num, by rw [← HQ2.out], HB5⟩
        case measure => simp [intOf]; omega
    · have hlt' : ¬ (k : Int) < (ss.length : Int) := by omega
      obtain rfl : k = ss.length := by omega
      rcases HB.o.2 with ⟨hv, hn⟩ | ⟨g, cap', cur, hv, hg0, hg1, hg2, hg3, hg4⟩
      · have hp : plains ss en ss.length = [] := List.length_eq_zero_iff.1 hn
        injection hv with q1 q2 q3
        subst q1 q3
        have HB2 := Lib.hid (And.intro HB.b hp)
        have HN := Lib.hid hn
        clear HB hp
        go_wp2_with fail
        refine (sort_nil _).mono ?_
        rintro e w2 ⟨rfl, rfl⟩
        go_wp2
        go_ret
        refine ⟨none, 0, [], by first | rfl | (rw [HB2.out.2]; rfl), Nat.le_refl _, Nat.zero_le _, .inl rfl, HB2.out.1, ?_, fun p hp => by cases hp⟩
        refine ⟨List.Pairwise.nil, fun x => ?_, Nat.zero_le _⟩
        rw [← mem_plains, HB2.out.2]
      · injection hv with q1 q2 q3
        subst q1 q3
        have hH := holds_of_own HB.o
        have hT : ToSort g 0 (plains ss en ss.length).toArray wr := ⟨⟨enc_len, enc_one, hH, (HB.o.lt g rfl).2⟩, by simp; omega, by
          intro x y x1 x2 x3
          have := plains_asc ss en ss.length
          rw [List.pairwise_iff_getElem] at this
          simp only [List.size_toArray] at x3
          rw [getElem!_pos _ x (by simp; omega), getElem!_pos _ y (by simpa using x3)]
          simpa using this x y (by omega) x3 x2⟩
        have hs := sortStable_any g 0 cap (plains ss en ss.length).toArray wr hT
        simp only [List.size_toArray] at hs
        have H83 := Lib.hid hs
        have HX := Lib.hid (And.intro hT (And.intro HB.b (And.intro hg0 (And.intro hg2 hg3))))
        clear hs hT hH HB hg0 hg1 hg2 hg3 hg4
        go_wp2_with fail
        refine H83.out.mono ?_
        rintro e w2 ⟨rfl, d', k1, k2⟩
        have HD := Lib.hid (And.intro k1 k2)
        clear k1 k2 H83
        go_wp2
        go_ret
        obtain ⟨k1, k2⟩ := HD.out
        obtain ⟨t1, t2, t3, t4, t5⟩ := HX.out
        have hz : d'.toList.length = (plains ss en ss.length).length := by have := k1.1.1; simpa using this
        refine ⟨some ⟨g, 0, none⟩, cap, d'.toList, by rw [hz]; rfl, by rw [hz]; exact t4, t5, ?_, t2.trans (swk_below k2 (by omega) t1.R.hblk), srt_of (by simpa using k1), fun p hp => by injection hp with hp; subst hp; exact Nat.lt_of_lt_of_le t1.R.hblk k2.le⟩
        exact prow_of_holds (k2.holds t1.R.hblk t1.R.hH (by have := k1.1.1; simpa using this))

end Go.Proofs.Ytcanhkngikeeiaa
