/- What l1Begin does: which pieces are a text, and with which bytes the others that begin with it go on. -/
import Derived.Test.YtcanhkngikeeiaaN8
import Derived.Test.YtcanhkngikeeiaaD8
namespace Go.Proofs.Ytcanhkngikeeiaa
open Go.RowKit
set_option linter.unusedVariables false

/-- Whether a plain piece begins with a text. -/
def begB (ss : List ByteArray) (en : Int) (t : ByteArray) (i : Nat) : Bool := plainB ss en i && fitsB (pieceAt ss i) t
/-- Of the first k pieces those that are the text. -/
def begIds (ss : List ByteArray) (en : Int) (t : ByteArray) : Nat → List Int
  | 0 => []
  | k + 1 => if begB ss en t k = true ∧ (pieceAt ss k).size = t.size then begIds ss en t k ++ [(k : Int)] else begIds ss en t k
/-- The byte of a piece behind a text. -/
def goesOn (t p : ByteArray) : Nat := (p.data.getD t.size 0).toNat
/-- With which bytes the first k pieces go on. -/
def begUsed (ss : List ByteArray) (en : Int) (t : ByteArray) : Nat → List Bool
  | 0 => List.replicate 256 false
  | k + 1 => if begB ss en t k = true ∧ (pieceAt ss k).size ≠ t.size then (begUsed ss en t k).set (goesOn t (pieceAt ss k)) true else begUsed ss en t k
theorem begUsed_length (ss : List ByteArray) (en : Int) (t : ByteArray) : ∀ k, (begUsed ss en t k).length = 256
  | 0 => by rw [begUsed, List.length_replicate]
  | k + 1 => by
    unfold begUsed
    split
    · rw [List.length_set, begUsed_length ss en t k]
    · exact begUsed_length ss en t k
theorem begIds_length (ss : List ByteArray) (en : Int) (t : ByteArray) : ∀ k, (begIds ss en t k).length ≤ k
  | 0 => by simp [begIds]
  | k + 1 => by unfold begIds; have := begIds_length ss en t k; split <;> simp <;> omega
/-- The bytes below k that are marked. -/
def bytesTo (u : List Bool) : Nat → List Int
  | 0 => []
  | k + 1 => if u.getD k false = true then bytesTo u k ++ [(k : Int)] else bytesTo u k
theorem bytesTo_length (u : List Bool) : ∀ k, (bytesTo u k).length ≤ k
  | 0 => by simp [bytesTo]
  | k + 1 => by unfold bytesTo; have := bytesTo_length u k; split <;> simp <;> omega

theorem beg_no {ss : List ByteArray} {en : Int} {t : ByteArray} {k : Nat} (h : begB ss en t k = false) : begIds ss en t (k + 1) = begIds ss en t k ∧ begUsed ss en t (k + 1) = begUsed ss en t k := by
  constructor
  · rw [begIds, if_neg (by simp [h])]
  · rw [begUsed, if_neg (by simp [h])]
theorem beg_is {ss : List ByteArray} {en : Int} {t : ByteArray} {k : Nat} (h : begB ss en t k = true) (hz : (pieceAt ss k).size = t.size) : begIds ss en t (k + 1) = begIds ss en t k ++ [(k : Int)] ∧ begUsed ss en t (k + 1) = begUsed ss en t k := by
  constructor
  · rw [begIds, if_pos ⟨h, hz⟩]
  · rw [begUsed, if_neg (by simp [hz])]
theorem beg_on {ss : List ByteArray} {en : Int} {t : ByteArray} {k : Nat} (h : begB ss en t k = true) (hz : (pieceAt ss k).size ≠ t.size) : begIds ss en t (k + 1) = begIds ss en t k ∧ begUsed ss en t (k + 1) = (begUsed ss en t k).set (goesOn t (pieceAt ss k)) true := by
  constructor
  · rw [begIds, if_neg (by simp [hz])]
  · rw [begUsed, if_pos ⟨h, hz⟩]
theorem goesOn_eq {t p : ByteArray} (h : t.size < p.size) : goesOn t p = p[t.size].toNat := by
  unfold goesOn
  have h' : t.size < p.data.size := h
  simp [Array.getD, h, ByteArray.getElem_eq_getElem_data]

theorem bytesTo_no {u : List Bool} {k : Nat} (h : u.getD k false = false) : bytesTo u (k + 1) = bytesTo u k := by rw [bytesTo, if_neg (by rw [h]; decide)]
theorem bytesTo_yes {u : List Bool} {k : Nat} (h : u.getD k false = true) : bytesTo u (k + 1) = bytesTo u k ++ [(k : Int)] := by rw [bytesTo, if_pos h]

/-- While the pieces are looked at. -/
structure BS (w0 : World) (U : Nat) (a : Option Addr) (c : Nat) (ss : List ByteArray) (en : Int) (ids : List Int) (I ic : Nat) (s : List Bool) (w : World) : Prop where
  v : Own w w0.heap.size 25 [.slice a ss.length c, .int .i64 en]
  i : w.ownsRow (w0.heap.size + 1) 3 1 (.slice (some ⟨I, 0, none⟩) ids.length ic) ids.length (ints ids)
  u : Own w U 4 (bools s)
  u0 : w0.heap.size < U
  b : Below w0.heap.size w0 w

section
variable {w0 w w' : World} {U : Nat} {a : Option Addr} {c : Nat} {ss : List ByteArray} {en : Int} {ids ids' : List Int} {I ic I' ic' : Nat} {s : List Bool}
theorem own_block {base g n cap : Nat} {xs : List Value} (h : w.ownsRow base 3 1 (.slice (some ⟨g, 0, none⟩) n cap) n xs) : ∃ cur, w.heap[g]? = some (.cells cur 3 (0, 0)) := by
  rcases h.2 with ⟨h1, _⟩ | ⟨g', cap', cur, h1, _, h2, _⟩
  · cases h1
  · injection h1 with e1; injection e1 with e1; injection e1 with e1; subst e1
    exact ⟨cur, h2⟩
theorem BS.ne (h : BS w0 U a c ss en ids I ic s w) : I ≠ U := by
  obtain ⟨cur, h1⟩ := own_block h.i
  intro e
  have h2 := h.u
  unfold Own at h2
  rw [e, h2] at h1
  simp at h1
theorem BS.keep (h : BS w0 U a c ss en ids I ic s w) (hb : Below w.heap.size w w') : BS w0 U a c ss en ids I ic s w' := ⟨h.v.keep hb, own_keep h.i hb, h.u.keep hb, h.u0, h.b.trans (hb.mono h.b.size)⟩
theorem BS.alloc (h : BS w0 U a c ss en ids I ic s w) (o : Obj) : BS w0 U a c ss en ids I ic s (w.alloc o) := h.keep ((Below.refl _ _).alloc (Nat.le_refl _) o)
theorem BS.iv (h : BS w0 U a c ss en ids I ic s w) : w0.heap.size < I := (h.i.lt I rfl).1
theorem BS.put (h : BS w0 U a c ss en ids I ic s w) (hg : w.grownBy w' (some I)) (hi : w'.ownsRow (w0.heap.size + 1) 3 1 (.slice (some ⟨I', 0, none⟩) ids'.length ic') ids'.length (ints ids')) : BS w0 U a c ss en ids' I' ic' s w' :=
  ⟨own_touch h.v hg (by have := h.iv; omega), hi, own_touch h.u hg (fun e => h.ne e.symm), h.u0, h.b.grown hg h.b.size (fun k hk => by injection hk with hk; have := h.iv; omega)⟩
theorem BS.use (h : BS w0 U a c ss en ids I ic s w) (k : Nat) : BS w0 U a c ss en ids I ic (s.set k true) (w.setCell ⟨U, k, none⟩ (.bool true)) := by
  have hu := h.u0
  refine ⟨h.v.far (by simp; omega) _, ?_, by have := h.u.set_ k (.bool true); rwa [bools_set] at this, h.u0, h.b.setCell (by simp; omega) _⟩
  obtain ⟨q1, q2⟩ := h.i
  refine ⟨q1, ?_⟩
  rcases q2 with q | ⟨g, cap, cur, e1, e2, e3, e4⟩
  · exact .inl q
  · injection e1 with e1' e5 e6
    injection e1' with e1'
    injection e1' with e1'
    subst e1'
    exact .inr ⟨I, cap, cur, by rw [e6], e2, (Below.heap_setCell w _ _ I (by simpa using h.ne)).trans e3, e4⟩
theorem BS.c0 (h : BS w0 U a c ss en ids I ic s w) : w.cell? ⟨w0.heap.size, 0, none⟩ = some (.slice a ss.length c) := by rw [h.v.cell]; rfl
theorem BS.c1 (h : BS w0 U a c ss en ids I ic s w) : w.cell? ⟨w0.heap.size, 1, none⟩ = some (.int .i64 en) := by rw [h.v.cell]; rfl
end

/-- While the bytes are gathered. -/
structure ES (w0 : World) (U X : Nat) (ids : List Int) (I ic : Nat) (bs : List Int) (O oc : Nat) (s : List Bool) (w : World) : Prop where
  i : w.ownsRow w0.heap.size 3 1 (.slice (some ⟨I, 0, none⟩) ids.length ic) ids.length (ints ids)
  ix : I < X
  o : w.ownsRow X 3 1 (.slice (some ⟨O, 0, none⟩) bs.length oc) bs.length (ints bs)
  u : Own w U 4 (bools s)
  ux : U < X
  b : Below w0.heap.size w0 w
  x0 : w0.heap.size ≤ X
section
variable {w0 w w' : World} {U X : Nat} {ids bs bs' : List Int} {I ic O oc O' oc' : Nat} {s : List Bool}
theorem ES.alloc (h : ES w0 U X ids I ic bs O oc s w) (o : Obj) : ES w0 U X ids I ic bs O oc s (w.alloc o) := ⟨h.i.alloc o, h.ix, h.o.alloc o, h.u.alloc o, h.ux, h.b.alloc h.b.size o, h.x0⟩
theorem ES.ox (h : ES w0 U X ids I ic bs O oc s w) : X ≤ O := (h.o.lt O rfl).1
theorem ES.put (h : ES w0 U X ids I ic bs O oc s w) (hg : w.grownBy w' (some O)) (ho : w'.ownsRow X 3 1 (.slice (some ⟨O', 0, none⟩) bs'.length oc') bs'.length (ints bs')) : ES w0 U X ids I ic bs' O' oc' s w' := by
  have h1 := h.ox
  have h2 := h.ix
  have h3 := h.ux
  have h4 := h.x0
  exact ⟨h.i.kept hg (by right; intro e; injection e with e; simp at e; omega), h.ix, ho, own_touch h.u hg (by omega), h.ux, h.b.grown hg h.b.size (fun k hk => by injection hk with hk; omega), h.x0⟩
end

/-- What l1Begin answers. -/
def BegPost (ss : List ByteArray) (en : Int) (t : ByteArray) (w : World) (e : Ending) (w' : World) : Prop :=
  ∃ O oc I ic, e = .returned (.tuple #[.slice (some ⟨O, 0, none⟩) (bytesTo (begUsed ss en t ss.length) 256).length oc, .slice (some ⟨I, 0, none⟩) (begIds ss en t ss.length).length ic]) ∧
    w'.ownsRow w.heap.size 3 1 (.slice (some ⟨O, 0, none⟩) (bytesTo (begUsed ss en t ss.length) 256).length oc) (bytesTo (begUsed ss en t ss.length) 256).length (ints (bytesTo (begUsed ss en t ss.length) 256)) ∧
    w'.ownsRow w.heap.size 3 1 (.slice (some ⟨I, 0, none⟩) (begIds ss en t ss.length).length ic) (begIds ss en t ss.length).length (ints (begIds ss en t ss.length)) ∧ I < O ∧ Below w.heap.size w w'

set_option maxRecDepth 100000 in
set_option maxHeartbeats 2000000 in
theorem l1Begin_any (a : Option Addr) (c : Nat) (ss : List ByteArray) (en : Int) (t : ByteArray) (w : World) (hr : Row w a (strs ss)) (hl : ss.length ≤ 1048576) (hs : ∀ s ∈ ss, s.size ≤ 1048576) (ht : t.size ≤ 1048576) :
    Calls Try.prog 80 #[.agg #[.slice a ss.length c, .int .i64 en], .string t] w (BegPost ss en t w) := by
  obtain ⟨i0, hi0, hz0, hz1, hz2⟩ := info_parts info3
  have HI := Lib.hid (And.intro hi0 (And.intro hz0 (And.intro hz1 hz2)))
  clear hi0 hz0 hz1 hz2
  have HR := Lib.hid hr
  have HS := Lib.hid hs
  clear hr hs
  have hmk : ∀ w : World, (Instr.makeSlice 111 (.int .i64 256) (.int .i64 256)).run Try.prog w = .ok (.slice (some ⟨w.heap.size, 0, none⟩) 256 256) (w.alloc (.cells (madeCells #[.bool false] 256) 4)) := run_make_row' (P := Try.prog) 111 4 (.bool false) 1 Try.underlying111 info4 rfl .i64 .i64 256 (by omega) (by omega)
  go_enter Try.func80, Try.ntmps80
  go_wp2
  clear hmk
  have HB : BS w (w.heap.size + 1 + 1) a c ss en [] (w.heap.size + 1) 0 (begUsed ss en t 0) (((w.alloc (.cells #[.slice a ss.length c, .int .i64 en] 25)).alloc (.cells #[] 3)).alloc (.cells (madeCells #[.bool false] 256) 4)) := by
    refine ⟨((Own.new w 25 #[.slice a ss.length c, .int .i64 en]).alloc _).alloc _, ?_, ?_, by omega, ((below_box _).alloc (by simp) _).alloc (by simp; omega) _⟩
    · have := (World.ownsRow_lit (base := w.heap.size + 1) (e := 3) (size := 1) (w.alloc (.cells #[.slice a ss.length c, .int .i64 en] 25)) #[] 0 (by simp) (by simp [maxLen]) rfl).alloc (.cells (madeCells #[.bool false] 256) 4)
      simpa [ints] using this
    · have := Own.made ((w.alloc (.cells #[.slice a ss.length c, .int .i64 en] 25)).alloc (.cells #[] 3)) 4 (.bool false) 256
      rw [begUsed, bools, List.map_replicate]
      simpa only [World.size_alloc] using this
  generalize ((w.alloc (.cells #[.slice a ss.length c, .int .i64 en] 25)).alloc (.cells #[] 3)).alloc (.cells (madeCells #[.bool false] 256) 4) = w1 at HB ⊢
  generalize w.heap.size + 1 + 1 = U at HB ⊢
  go_loopw [6, 8] (fun x i wr => ∃ (k I ic : Nat), k ≤ ss.length ∧ i = .int .i64 k ∧ x = .slice (some ⟨I, 0, none⟩) (begIds ss en t k).length ic ∧ BS w U a c ss en (begIds ss en t k) I ic (begUsed ss en t k) wr) (fun _ i _ => ss.length - (intOf i).toNat)
  case atStart => exact ⟨0, _, _, Nat.zero_le _, rfl, rfl, HB⟩
  case round =>
    clear HB
    obtain ⟨k, I, ic, hk, rfl, rfl, HB⟩ := hrel
    have hidl := begIds_length ss en t k
    by_cases hlt : k < ss.length
    · have hlt' : (k : Int) < (ss.length : Int) := by omega
      have c0 := HB.c0
      have c1 := HB.c1
      have h59 := specPlain_any a c ss en k wr (HR.out.keep HB.b) hlt hl
      cases hP : plainB ss en k
      · rw [hP] at h59
        have H59 := Lib.hid h59
        obtain ⟨q1, q2⟩ := beg_no (ss := ss) (en := en) (t := t) (k := k) (by simp [begB, hP])
        have HQ := Lib.hid (And.intro q1 q2)
        clear h59 hP q1 q2
        go_wp2_with fail
        refine H59.out.mono ?_
        rintro e w2 ⟨rfl, hb2⟩
        replace HB := HB.keep hb2
        clear hb2 c0 c1
        go_wp2
        go_roundw
        case rel => exact ⟨k + 1, I, ic, by omega, by go_num, by rw [HQ.out.1], by rw [HQ.out.1, HQ.out.2]; exact HB⟩
        case measure => simp [intOf]; omega
      · rw [hP] at h59
        have H59 := Lib.hid h59
        clear h59
        go_wp2_with fail
        refine H59.out.mono ?_
        rintro e w2 ⟨rfl, hb2⟩
        replace HB := HB.keep hb2
        clear hb2 c0 c1
        have c0 := HB.c0
        have c1 := HB.c1
        obtain ⟨b, off, rfl, hcp⟩ := (HR.out.keep HB.b).piece hlt
        have hpz := pieceAt_le k HS.out
        have h60 := fits_any (pieceAt ss k) t w2 (by unfold maxLen; omega) (by unfold maxLen; omega)
        cases hF : fitsB (pieceAt ss k) t
        · rw [hF] at h60
          have H60 := Lib.hid h60
          obtain ⟨q1, q2⟩ := beg_no (ss := ss) (en := en) (t := t) (k := k) (by simp [begB, hF])
          have HQ := Lib.hid (And.intro q1 q2)
          clear h60 hF hP q1 q2
          go_wp2_with fail
          refine H60.out.mono ?_
          rintro e w3 ⟨rfl, rfl⟩
          go_wp2
          go_roundw
          case rel => exact ⟨k + 1, I, ic, by omega, by go_num, by rw [HQ.out.1], by rw [HQ.out.1, HQ.out.2]; exact HB⟩
          case measure => simp [intOf]; omega
        · rw [hF] at h60
          have H60 := Lib.hid h60
          have hle : t.size ≤ (pieceAt ss k).size := by simp only [fitsB, Bool.and_eq_true, decide_eq_true_eq] at hF; exact hF.1
          by_cases hz : (pieceAt ss k).size = t.size
          · have hz' : (((pieceAt ss k).size : Int) == (t.size : Int)) = true := by simp [hz]
            obtain ⟨q1, q2⟩ := beg_is (ss := ss) (en := en) (t := t) (k := k) (by simp [begB, hP, hF]) hz
            have HQ := Lib.hid (And.intro q1 q2)
            clear h60 hF hP q1 q2 hz
            go_wp2_with fail
            refine H60.out.mono ?_
            rintro e w3 ⟨rfl, rfl⟩
            have hsz := HB.b.size
            have hiv := HB.i.lt I rfl
            go_wp2_with (at_builtin; refine wpList_append_own _ rfl _ _ 26 rfl (w.heap.size + 1) 3 i0 (.int .i64 0) 1 8 Try.underlying26 HI.out.1 HI.out.2.1 HI.out.2.2.1 HI.out.2.2.2 rfl (by decide) _ _ _ rfl (HB.alloc _).i ⟨w2.heap.size, 0, none⟩ 1 1 [.int .i64 k] rfl rfl (cell_one_new _ _ _) ?c2 ?c3 ?c4 ?c5 ?_)
            case c2 => first | rfl | (intro u hu; simp at hu; subst hu; rfl)
            case c3 => unfold maxLen; omega
            case c4 => omega
            case c5 => first | omega | (simp; omega)
            intro v' w5 hown' hgrow _
            obtain ⟨I5, ic5, rfl, hi5, ⟨G5, rfl⟩⟩ := own_int hown'
            have HB5 := (HB.alloc _).put hgrow hi5
            clear HB hgrow hown' hi5
            go_wp2
            go_roundw
            case rel => exact ⟨k + 1, G5, ic5, by omega, by go_num, by rw [HQ.out.1]; simp, by rw [HQ.out.1, HQ.out.2]; exact HB5⟩
            case measure => simp [intOf]; omega
          · have hz' : (((pieceAt ss k).size : Int) == (t.size : Int)) = false := by rw [beq_eq_false_iff_ne]; omega
            have hlt2 : t.size < (pieceAt ss k).size := by omega
            have hlt2' : (t.size : Int) < ((pieceAt ss k).size : Int) := by omega
            obtain ⟨q1, q2⟩ := beg_on (ss := ss) (en := en) (t := t) (k := k) (by simp [begB, hP, hF]) hz
            rw [goesOn_eq hlt2] at q2
            have HQ := Lib.hid (And.intro q1 q2)
            clear h60 hF hP q1 q2 hz
            have hw := wrap_byte (pieceAt ss k)[t.size]
            have hby : ((pieceAt ss k)[t.size].toNat : Int) < 256 := by have := (pieceAt ss k)[t.size].toNat_lt; omega
            have hul := begUsed_length ss en t k
            obtain ⟨vu, hvu⟩ : ∃ v, w2.cell? ⟨U, (pieceAt ss k)[t.size].toNat, none⟩ = some v := ⟨_, HB.u.cell_ (i := (pieceAt ss k)[t.size].toNat) (by simp [bools, hul]; omega)⟩
            have hfu := HB.u.frozen (pieceAt ss k)[t.size].toNat
            have HB5 := HB.use (pieceAt ss k)[t.size].toNat
            have hUl := HB.u.lt
            clear HB hul
            go_wp2_with fail
            refine H60.out.mono ?_
            rintro e w3 ⟨rfl, rfl⟩
            go_wp2
            go_roundw
            case rel => exact ⟨k + 1, I, ic, by omega, by go_num, by rw [HQ.out.1], by rw [HQ.out.1, HQ.out.2]; exact HB5⟩
            case measure => simp [intOf]; omega
    · have hlt' : ¬ (k : Int) < (ss.length : Int) := by omega
      obtain rfl : k = ss.length := by omega
      have c0 := HB.c0
      have hul := begUsed_length ss en t ss.length
      have HE : ES w U wr.heap.size (begIds ss en t ss.length) I ic [] wr.heap.size 0 (begUsed ss en t ss.length) (wr.alloc (.cells #[] 3)) :=
        ⟨own_base ((HB.alloc _).i) (by omega), (HB.i.lt I rfl).2, by simpa [ints] using World.ownsRow_lit (base := wr.heap.size) (e := 3) (size := 1) wr #[] 0 (by simp) (by simp [maxLen]) rfl, (HB.alloc _).u, HB.u.lt, (HB.alloc _).b, HB.b.size⟩
      clear HB
      go_wp2
      generalize wr.alloc (.cells #[] 3) = w5 at HE ⊢
      generalize wr.heap.size = X at HE ⊢
      clear c0
      rename World => wq
      go_loopw [9, 10] (fun x i wr => ∃ (k O oc : Nat), k ≤ 256 ∧ i = .int .i64 k ∧ x = .slice (some ⟨O, 0, none⟩) (bytesTo (begUsed ss en t ss.length) k).length oc ∧ ES w U X (begIds ss en t ss.length) I ic (bytesTo (begUsed ss en t ss.length) k) O oc (begUsed ss en t ss.length) wr) (fun _ i _ => 256 - (intOf i).toNat)
      case atStart => exact ⟨0, _, _, Nat.zero_le _, rfl, rfl, HE⟩
      case round =>
        clear HE
        obtain ⟨k, O, oc, hk2, rfl, rfl, HE⟩ := hrel
        have hbl := bytesTo_length (begUsed ss en t ss.length) k
        by_cases hlt : k < 256
        · have hlt' : (k : Int) < 256 := by omega
          have cu : wr.cell? ⟨U, k, none⟩ = some (.bool ((begUsed ss en t ss.length).getD k false)) := by
            rw [HE.u.cell]
            simp [bools, List.getD_eq_getElem?_getD, List.getElem?_eq_getElem (show k < (begUsed ss en t ss.length).length by omega)]
          cases hu : (begUsed ss en t ss.length).getD k false
          · rw [hu] at cu
            have HQ := Lib.hid (bytesTo_no hu)
            clear hu
            go_wp2
            go_roundw
            case rel => exact ⟨k + 1, O, oc, by omega, by go_num, by rw [HQ.out], by rw [HQ.out]; exact HE⟩
            case measure => simp [intOf]; omega
          · rw [hu] at cu
            have HQ := Lib.hid (bytesTo_yes hu)
            clear hu
            have hox := HE.ox
            have hol := (HE.o.lt O rfl).2
            go_wp2_with (at_builtin; refine wpList_append_own _ rfl _ _ 26 rfl X 3 i0 (.int .i64 0) 1 8 Try.underlying26 HI.out.1 HI.out.2.1 HI.out.2.2.1 HI.out.2.2.2 rfl (by decide) _ _ _ rfl (HE.alloc _).o ⟨wr.heap.size, 0, none⟩ 1 1 [.int .i64 k] rfl rfl (cell_one_new _ _ _) ?d2 ?d3 ?d4 ?d5 ?_)
            case d2 => first | rfl | (intro u hu; simp at hu; subst hu; rfl)
            case d3 => unfold maxLen; omega
            case d4 => omega
            case d5 => first | omega | (simp; omega)
            intro v' w6 hown' hgrow _
            obtain ⟨O5, oc5, rfl, ho5, ⟨G5, rfl⟩⟩ := own_int hown'
            have HE5 := (HE.alloc _).put hgrow ho5
            clear HE hgrow hown' ho5
            go_wp2
            go_roundw
            case rel => exact ⟨k + 1, G5, oc5, by omega, by go_num, by rw [HQ.out]; simp, by rw [HQ.out]; exact HE5⟩
            case measure => simp [intOf]; omega
        · have hlt' : ¬ (k : Int) < 256 := by omega
          obtain rfl : k = 256 := by omega
          go_wp2
          go_ret2
          exact ⟨O, oc, I, ic, rfl, own_base HE.o HE.x0, HE.i, by have := HE.ox; have := HE.ix; omega, HE.b⟩

end Go.Proofs.Ytcanhkngikeeiaa
