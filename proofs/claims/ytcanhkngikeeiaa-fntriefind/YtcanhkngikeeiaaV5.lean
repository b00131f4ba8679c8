/- The tree of pieces as the specification grows it: l1Grow. -/
import Derived.Test.YtcanhkngikeeiaaV4
namespace Go.Proofs.Ytcanhkngikeeiaa
open Go.RowKit
set_option linter.unusedVariables false

theorem more_kid (ns rest : List Node) (n0 : Node) (x : Int) : moreAt (ns ++ n0 :: rest) (2 * ns.length) x = ns ++ { n0 with kids := n0.kids ++ [x] } :: rest := by
  unfold moreAt Node.more
  rw [show 2 * ns.length / 2 = ns.length by omega, show 2 * ns.length % 2 = 0 by omega]
  simp
theorem more_ids (ns rest : List Node) (n0 : Node) (x : Int) : moreAt (ns ++ n0 :: rest) (2 * ns.length + 1) x = ns ++ { n0 with ids := n0.ids ++ [x] } :: rest := by
  unfold moreAt Node.more
  rw [show (2 * ns.length + 1) / 2 = ns.length by omega, show (2 * ns.length + 1) % 2 = 1 by omega]
  simp

section
variable {σ : Type}
/-- The nodes when k kids are there. -/
def upTo (tr : Nat → Int → σ → List Node) (ns : List Node) (b : Int) (js : List Int) (nx : List (Int × σ)) (k : Nat) : List Node :=
  ns ++ ⟨b, (forest tr (ns.length + 1) (nx.take k)).1, js⟩ :: (forest tr (ns.length + 1) (nx.take k)).2
variable {tr : Nat → Int → σ → List Node} {ns : List Node} {b : Int} {js : List Int} {nx : List (Int × σ)} {k : Nat}
theorem upTo_zero : upTo tr ns b js nx 0 = ns ++ [⟨b, [], js⟩] := by simp [upTo, forest_nil]
theorem upTo_length : (upTo tr ns b js nx k).length = ns.length + 1 + (forest tr (ns.length + 1) (nx.take k)).2.length := by simp [upTo]; omega
theorem forest_take (h : k < nx.length) : forest tr (ns.length + 1) (nx.take (k + 1)) = ((forest tr (ns.length + 1) (nx.take k)).1 ++ [((upTo tr ns b js nx k).length : Int)], (forest tr (ns.length + 1) (nx.take k)).2 ++ tr (upTo tr ns b js nx k).length nx[k].1 nx[k].2) := by
  rw [List.take_succ_eq_append_getElem h, forest_snoc, upTo_length (b := b) (js := js)]
theorem upTo_step (h : k < nx.length) : moreAt (upTo tr ns b js nx k ++ tr (upTo tr ns b js nx k).length nx[k].1 nx[k].2) (2 * ns.length) (upTo tr ns b js nx k).length = upTo tr ns b js nx (k + 1) := by
  have h1 := forest_take (tr := tr) (ns := ns) (b := b) (js := js) h
  conv => rhs; unfold upTo
  rw [h1]
  generalize hT : tr (upTo tr ns b js nx k).length nx[k].1 nx[k].2 = T
  generalize hL : ((upTo tr ns b js nx k).length : Int) = x
  unfold upTo
  rw [List.append_assoc, List.cons_append, more_kid]
theorem upTo_step' (h : k < nx.length) : moreAt (upTo tr ns b js nx k) (2 * ns.length) (upTo tr ns b js nx k).length ++ tr (upTo tr ns b js nx k).length nx[k].1 nx[k].2 = upTo tr ns b js nx (k + 1) := by
  have h1 := forest_take (tr := tr) (ns := ns) (b := b) (js := js) h
  conv => rhs; unfold upTo
  rw [h1]
  generalize hT : tr (upTo tr ns b js nx k).length nx[k].1 nx[k].2 = T
  generalize hL : ((upTo tr ns b js nx k).length : Int) = x
  unfold upTo
  rw [more_kid]
  simp
theorem forest_mono (tr : Nat → Int → σ → List Node) : ∀ (l : List (Int × σ)) (base k : Nat), (forest tr base (l.take k)).2.length ≤ (forest tr base l).2.length := by
  intro l base k
  conv => rhs; rw [← List.take_append_drop k l, forest_append]
  simp
theorem forest_kids (tr : Nat → Int → σ → List Node) : ∀ (l : List (Int × σ)) (base : Nat), (forest tr base l).1.length = l.length
  | [], base => rfl
  | x :: l, base => by rw [forest_cons]; simp [forest_kids tr l]
theorem upTo_child (h : k < nx.length) : (upTo tr ns b js nx k).length + (tr (upTo tr ns b js nx k).length nx[k].1 nx[k].2).length ≤ ns.length + 1 + (forest tr (ns.length + 1) nx).2.length := by
  have h1 := forest_take (tr := tr) (ns := ns) (b := b) (js := js) h
  have h2 := forest_mono tr nx (ns.length + 1) (k + 1)
  rw [h1] at h2
  simp only [List.length_append] at h2
  have h3 := upTo_length (tr := tr) (ns := ns) (b := b) (js := js) (nx := nx) (k := k)
  omega
theorem upTo_kids : lst (upTo tr ns b js nx k) (2 * ns.length) = (forest tr (ns.length + 1) (nx.take k)).1 := by
  rw [lst_kid (by simp [upTo])]
  simp [upTo]
theorem upTo_all : upTo tr ns b js nx nx.length = ns ++ ⟨b, (forest tr (ns.length + 1) nx).1, js⟩ :: (forest tr (ns.length + 1) nx).2 := by simp [upTo]
end

theorem tree_up {σ : Type} (ids : σ → List Int) (next : σ → List (Int × σ)) (f base : Nat) (b : Int) (s : σ) (h : f = 0 → next s = []) : tree ids next f base b s = ⟨b, (forest (tree ids next (f - 1)) (base + 1) (next s)).1, ids s⟩ :: (forest (tree ids next (f - 1)) (base + 1) (next s)).2 := by
  cases f with
  | zero => rw [h rfl]; rfl
  | succ f => rfl

/-- Where no piece is longer, nothing goes on. -/
theorem nextS_nil {ss : List ByteArray} {en : Int} {t : ByteArray} (hs : ∀ s ∈ ss, s.size ≤ 6) (ht : 6 ≤ t.size) : nextS ss en t = [] := by
  unfold nextS
  have : bytesTo (begUsed ss en t ss.length) 256 = [] := by
    rw [List.eq_nil_iff_forall_not_mem]
    intro z hz
    obtain ⟨n, hn, h, rfl⟩ := mem_bytesTo.1 hz
    rw [used_iff hn] at h
    obtain ⟨i, h1, h2, h3, h4⟩ := h
    have hp : (pieceAt ss i).size ≤ 6 := by
      rw [pieceAt_eq h1]; exact hs _ (List.getElem_mem h1)
    unfold begB at h2
    rw [Bool.and_eq_true, fits_iff] at h2
    have := h2.2.length_le
    simp at this
    omega
  rw [this]; rfl

/-- What l1Grow leaves: the nodes of a tree behind the others. -/
def GrowPost (base : Nat) (T : List Node) (ns : List Node) (v : Value) (val : Nat → Value) (w : World) (e : Ending) (w' : World) : Prop :=
  ∃ A cap val' xs', e = .returned (.tuple #[.slice A (ns ++ T).length cap, .int .i64 ns.length]) ∧ Fo base (.slice A (ns ++ T).length cap) (ns ++ T) val' xs' w' ∧ Fr (Foot v ns.length val) (Foot (.slice A (ns ++ T).length cap) (ns ++ T).length val') w w'

theorem cell_three_new (w : World) (t : TypeId) (x y z : Value) : ∀ j u, [x, y, z][j]? = some u → (w.alloc (.cells #[x, y, z] t)).cell? ((⟨w.heap.size, 0, none⟩ : Addr).add j) = some u := by
  intro j u h
  rw [Addr.add_lit, Nat.zero_add, (Own.new w t #[x, y, z]).cell]
  exact h
theorem Row.below {w w' : World} {a : Option Addr} {xs : List Value} {base : Nat} (h : Row w a xs) (hb : Below base w w') (ha : ∀ p, a = some p → p.block < base) : Row w' a xs := by
  rcases h with h | ⟨b, off, rfl, hc⟩
  · exact .inl h
  · exact .inr ⟨b, off, rfl, fun i hi => (hb.cell (p := ⟨b, off + i, none⟩) (ha ⟨b, off, none⟩ rfl)).trans (hc i hi)⟩

theorem own_some {w : World} {base : Nat} {e : TypeId} {size : Nat} {v : Value} {n : Nat} {xs : List Value} (h : w.ownsRow base e size v n xs) (hn : 0 < n) : ∃ G cap, v = .slice (some ⟨G, 0, none⟩) n cap := by
  rcases h.2 with ⟨_, e2⟩ | ⟨g, c, cur, e1, _⟩
  · omega
  · exact ⟨g, c, e1⟩

theorem push_app (t : ByteArray) (c : UInt8) : t ++ (⟨#[c]⟩ : ByteArray) = t.push c := by
  apply bytes_eq
  rw [ByteArray.toList_eq, ByteArray.toList_eq]
  simp

/-- The induction's hypothesis. -/
def GrowsTo (a : Option Addr) (c : Nat) (ss : List ByteArray) (en : Int) (f : Nat) : Prop := ∀ (t : ByteArray) (b : Int) (ns : List Node) (A : Option Addr) (cap : Nat) (val : Nat → Value) (xs : List Value) (base : Nat) (w : World), Row w a (strs ss) → (∀ p, a = some p → p.block < base) →
  Fo base (.slice A ns.length cap) ns val xs w → base ≤ w.heap.size → 6 ≤ t.size + f → t.size ≤ 6 → ns.length + (tree (idsS ss en) (nextS ss en) f ns.length b t).length ≤ 1000 →
  Calls Try.prog 62 #[.agg #[.slice a ss.length c, .int .i64 en], .slice A ns.length cap, .string t, .int .i64 b] w (GrowPost base (tree (idsS ss en) (nextS ss en) f ns.length b t) ns (.slice A ns.length cap) val w)

set_option maxRecDepth 100000 in
set_option maxHeartbeats 4000000 in
theorem grow_step (a : Option Addr) (c : Nat) (ss : List ByteArray) (en : Int) (hl : ss.length ≤ 40) (hs : ∀ s ∈ ss, s.size ≤ 6) (f : Nat) (IH : ∀ g, g + 1 = f → GrowsTo a c ss en g) : GrowsTo a c ss en f := by
  intro t b ns A cap val xs base w hr ha hF hbase hf ht hN
  obtain ⟨i0, hi0, hz0, hz1, hz2⟩ := info_parts info46
  have HI := Lib.hid (And.intro hi0 (And.intro hz0 (And.intro hz1 hz2)))
  clear hi0 hz0 hz1 hz2
  obtain ⟨j0, hi0, hz0, hz1, hz2⟩ := info_parts info3
  have HJ := Lib.hid (And.intro hi0 (And.intro hz0 (And.intro hz1 hz2)))
  clear hi0 hz0 hz1 hz2
  have HR := Lib.hid hr
  have HA := Lib.hid ha
  have HF := Lib.hid hF
  have HIH := Lib.hid IH
  have HSS := Lib.hid hs
  have hnil : f = 0 → nextS ss en t = [] := fun h => nextS_nil hs (by omega)
  have hT := tree_up (idsS ss en) (nextS ss en) f ns.length b t hnil
  have HT := Lib.hid hT
  rw [hT] at hN
  simp only [List.length_cons] at hN
  have HN := Lib.hid hN
  have HNIL := Lib.hid hnil
  have hnl : ns.length ≤ 1000 := by omega
  clear hr ha hF IH hs hT hN hnil
  have hbeg := l1Begin_any a c ss en t (w.alloc (.cells #[.slice a ss.length c, .int .i64 en] 25)) (HR.out.alloc _) (by omega) (fun s h => by have := HSS.out s h; omega) (by omega)
  have HBEG := Lib.hid hbeg
  clear hbeg
  go_enter Try.func62, Try.ntmps62
  go_wp2_with fail
  refine HBEG.out.mono ?_
  rintro e w2 ⟨O, oc, I, ic, rfl, hO, hI, hIO, hb2⟩
  clear HBEG
  go_wp2_with (at_builtin; refine wpList_append_own_at _ rfl _ _ 41 rfl base 46 i0 (.agg #[.int .i64 0, .slice none 0 0, .slice none 0 0]) 3 56 Try.underlying41 HI.out.1 HI.out.2.1 HI.out.2.2.1 HI.out.2.2.2 rfl (by decide) _ _ _ rfl (((HF.out.alloc _).keep hb2).alloc _).row ⟨w2.heap.size, 0, none⟩ 1 1 [.int .i64 b, .slice none 0 0, .slice (some ⟨I, 0, none⟩) (begIds ss en t ss.length).length ic] rfl rfl ?c1 ?c2 ?c3 ?c4 ?c5 ?_)
  case c1 => exact cell_three_new _ _ _ _ _
  case c2 => (intro u hu; simp at hu; rcases hu with rfl | rfl | rfl <;> rfl)
  case c3 => unfold maxLen; omega
  case c4 => omega
  case c5 => (have h1 := hb2.size; simp at h1 ⊢; omega)
  intro v' w4 hown' hgrow _ hblk
  obtain ⟨G4, c4, rfl⟩ := own_some hown' (by omega)
  have hsz2 := hb2.size
  simp only [World.size_alloc] at hsz2
  have hIl := hI.lt I rfl
  have hOl := hO.lt O rfl
  simp only [World.size_alloc] at hIl hOl
  -- the node is there
  have HF4 := (((HF.out.alloc (.cells #[.slice a ss.length c, .int .i64 en] 25)).keep hb2).alloc (.cells #[.int .i64 b, .slice none 0 0, .slice (some ⟨I, 0, none⟩) (begIds ss en t ss.length).length ic] 46)).push (js := begIds ss en t ss.length) hgrow hown' ((own_base hI (by simp; omega)).alloc _)
    (fun q k hq hk e => by
      have h1 := ((HF.out.own q hq).lt k hk).2
      simp only [Value.ownBlock] at e
      injection e with e
      omega)
    (.inr (fun e => by
      simp only [Value.ownBlock] at e
      have h1 := (HF.out.row.lt I e.symm).2
      omega))
  have hFr1 : Fr (Foot (.slice A ns.length cap) ns.length val) (Foot (.slice A ns.length cap) ns.length val) w (w2.alloc (.cells #[.int .i64 b, .slice none 0 0, .slice (some ⟨I, 0, none⟩) (begIds ss en t ss.length).length ic] 46)) :=
    Fr.of_below _ ((((below_box (w := w) (.cells #[.slice a ss.length c, .int .i64 en] 25))).trans (hb2.mono (by simp))).alloc (by omega) _)
  have hFr4 := hFr1.push (b := b) (js := begIds ss en t ss.length) (jv := .slice (some ⟨I, 0, none⟩) (begIds ss en t ss.length).length ic) (v' := .slice (some ⟨G4, 0, none⟩) (ns.length + 1) c4) hgrow (by rw [World.size_alloc]; exact hblk) (fun k hk => by simp only [Value.ownBlock] at hk; injection hk with hk; omega)
  have hnotF : ∀ k, k < w4.heap.size → (w.heap.size ≤ k ∧ k ≠ I ∧ k < w2.heap.size) → ¬ Foot (.slice (some ⟨G4, 0, none⟩) (ns.length + 1) c4) (ns ++ [(⟨b, [], begIds ss en t ss.length⟩ : Node)]).length (upd (upd val (2 * ns.length) (.slice none 0 0)) (2 * ns.length + 1) (.slice (some ⟨I, 0, none⟩) (begIds ss en t ss.length).length ic)) k := by
    rintro k hk ⟨h1, h2, h3⟩ hq
    rcases foot_push (w := w2.alloc (.cells #[.int .i64 b, .slice none 0 0, .slice (some ⟨I, 0, none⟩) (begIds ss en t ss.length).length ic] 46)) (by rw [World.size_alloc]; exact hblk) hq with q | q | q
    · have := (HF.out.foot q).2; omega
    · simp only [Value.ownBlock] at q; injection q with q; omega
    · simp only [World.size_alloc] at q; omega
  have hs4 : w2.heap.size + 1 ≤ w4.heap.size := by have := hgrow.size; simpa using this
  have hbox : Own w4 w.heap.size 25 [.slice a ss.length c, .int .i64 en] := by
    have h1 := (((Own.new w 25 #[.slice a ss.length c, .int .i64 en]).keep hb2).alloc (.cells #[.int .i64 b, .slice none 0 0, .slice (some ⟨I, 0, none⟩) (begIds ss en t ss.length).length ic] 46))
    exact own_touch' h1 hgrow (fun e => by have := (HF.out.row.lt _ e).2; omega)
  have hObs : w4.ownsRow (w.heap.size + 1) 3 1 (.slice (some ⟨O, 0, none⟩) (bytesTo (begUsed ss en t ss.length) 256).length oc) (bytesTo (begUsed ss en t ss.length) 256).length (ints (bytesTo (begUsed ss en t ss.length) 256)) :=
    (own_base (hO.alloc _) (by simp)).kept hgrow (.inr (fun e => by simp only [Value.ownBlock] at e; have := (HF.out.row.lt O e.symm).2; omega))
  have hORow := own_row hObs
  obtain ⟨val4, hval4⟩ : ∃ v, v = (upd (upd val (2 * ns.length) (.slice none 0 0)) (2 * ns.length + 1) (.slice (some ⟨I, 0, none⟩) (begIds ss en t ss.length).length ic)) := ⟨_, rfl⟩
  rw [← hval4] at HF4 hFr4 hnotF
  have hlen1 : (ns ++ [(⟨b, [], begIds ss en t ss.length⟩ : Node)]).length = ns.length + 1 := by simp
  rw [hlen1] at hFr4 hnotF
  have hnotO := hnotF O (by omega) ⟨by omega, by omega, by omega⟩
  have hnotB := hnotF w.heap.size (by omega) ⟨by omega, by omega, by omega⟩
  obtain ⟨tr, htr⟩ : ∃ tr, tr = tree (idsS ss en) (nextS ss en) (f - 1) := ⟨_, rfl⟩
  obtain ⟨bs, hbs⟩ : ∃ bs, bs = bytesTo (begUsed ss en t ss.length) 256 := ⟨_, rfl⟩
  obtain ⟨nx, hnx⟩ : ∃ nx, nx = nextS ss en t := ⟨_, rfl⟩
  have hnx2 : nx = bs.map (fun c => (c, t.push c.toNat.toUInt8)) := by rw [hnx, hbs]; rfl
  have hbl : bs.length ≤ 256 := by rw [hbs]; exact bytesTo_length _ _
  have hnxl : nx.length = bs.length := by rw [hnx2]; simp
  have hbr : ∀ z ∈ bs, 0 ≤ z ∧ z < 256 := fun z hz => by
    rw [hbs] at hz
    obtain ⟨n, h1, _, rfl⟩ := mem_bytesTo.1 hz
    omega
  have HX := Lib.hid (And.intro htr (And.intro hnx (And.intro hnx2 (And.intro hnxl hbr))))
  have HO4 := Lib.hid hORow
  have HBOX := Lib.hid hbox
  have HNO := Lib.hid (And.intro hnotO hnotB)
  have HFR := Lib.hid hFr4
  have hup0 : upTo tr ns b (begIds ss en t ss.length) nx 0 = ns ++ [⟨b, [], begIds ss en t ss.length⟩] := upTo_zero
  have HF4' : Fo base (.slice (some ⟨G4, 0, none⟩) (upTo tr ns b (begIds ss en t ss.length) nx 0).length c4) (upTo tr ns b (begIds ss en t ss.length) nx 0) val4 (xs ++ [.int .i64 b, .slice none 0 0, .slice (some ⟨I, 0, none⟩) (begIds ss en t ss.length).length ic]) w4 := by
    rw [hup0, hlen1]; exact HF4
  have HS0 := Lib.hid HF4'
  have HUP := Lib.hid (show ns.length + 1 = (upTo tr ns b (begIds ss en t ss.length) nx 0).length by rw [hup0, hlen1])
  rw [← hbs] at hORow HO4 ⊢
  have HBS := Lib.hid hbs
  have hG4 := HF4.row.lt G4 rfl
  have hbw4 : Below base w w4 := hFr4.below (fun k hk => (HF.out.foot hk).1) hbase
  have HBW := Lib.hid hbw4
  clear hbs htr hnx hnx2 hnxl hbr hORow hbox hnotO hnotB hFr4 hup0 HF4' HF4 hnotF hFr1 hown' hgrow hblk hval4 hlen1 hO hI hb2 hObs hbw4
  go_wp2
  go_loopg [1, 13, 14, 15] (bs.length) (fun gk x i y z wr => ∃ (k G cp : Nat) (vl : Nat → Value) (ys : List Value), k ≤ bs.length ∧ bs.length - k ≤ gk ∧ i = .int .i64 k ∧ x = .slice (some ⟨G, 0, none⟩) (upTo tr ns b (begIds ss en t ss.length) nx k).length cp ∧ Aside (Fo base (.slice (some ⟨G, 0, none⟩) (upTo tr ns b (begIds ss en t ss.length) nx k).length cp) (upTo tr ns b (begIds ss en t ss.length) nx k) vl ys wr ∧ Fr (Foot (.slice (some ⟨G4, 0, none⟩) (ns.length + 1) c4) (ns.length + 1) val4) (Foot (.slice (some ⟨G, 0, none⟩) (upTo tr ns b (begIds ss en t ss.length) nx k).length cp) (upTo tr ns b (begIds ss en t ss.length) nx k).length vl) w4 wr))
  case atStart => exact ⟨0, G4, c4, val4, _, Nat.zero_le _, by omega, rfl, by rw [HUP.out], ⟨HS0.out, by rw [← HUP.out]; exact Fr.refl _ _⟩⟩
  case round =>
    obtain ⟨k, G, cp, vl, ys, hk, hgk, rfl, rfl, S1⟩ := hrel
    obtain ⟨U, hU⟩ : ∃ U, U = upTo tr ns b (begIds ss en t ss.length) nx k := ⟨_, rfl⟩
    rw [← hU] at S1 ⊢
    have HU := Lib.hid hU
    clear hU
    by_cases hlt : k < bs.length
    · have hlt' : (k : Int) < (bs.length : Int) := by omega
      have hbz : 0 ≤ bs[k] ∧ bs[k] < 256 := HX.out.2.2.2.2 _ (List.getElem_mem hlt)
      obtain ⟨z, hz⟩ : ∃ z : Nat, bs[k] = (z : Int) := ⟨bs[k].toNat, by omega⟩
      have hz256 : z < 256 := by omega
      have hbx := S1.out.2.own HBOX.out HNO.out.2
      have c0 : wr.cell? ⟨w.heap.size, 0, none⟩ = some (.slice a ss.length c) := by rw [hbx.cell]; rfl
      have c1 : wr.cell? ⟨w.heap.size, 1, none⟩ = some (.int .i64 en) := by rw [hbx.cell]; rfl
      have cO : wr.cell? ⟨O, k, none⟩ = some (.int .i64 z) := by
        obtain ⟨ob, oo, e1, h1⟩ := HO4.out.int hlt
        injection e1 with e1
        injection e1 with e1 e2
        subst e1 e2
        rw [hz, Nat.zero_add] at h1
        exact S1.out.2.cell h1 HNO.out.1
      have hf1 : ∃ g, g + 1 = f := by
        cases f with
        | zero =>
          have h1 := HNIL.out rfl
          rw [← HX.out.2.1] at h1
          have h2 := HX.out.2.2.2.1
          rw [h1] at h2
          simp at h2
          omega
        | succ g => exact ⟨g, rfl⟩
      obtain ⟨g, hg⟩ := hf1
      have ht6 : t.size < 6 := by
        rcases Nat.lt_or_ge t.size 6 with h | h
        · exact h
        · have h1 := nextS_nil (en := en) HSS.out h
          rw [← HX.out.2.1] at h1
          have h2 := HX.out.2.2.2.1
          rw [h1] at h2
          simp at h2
          omega
      have hkn : k < nx.length := by rw [HX.out.2.2.2.1]; exact hlt
      have hnk : nx[k] = ((z : Int), t.push z.toUInt8) := by
        have h1 := HX.out.2.2.1
        subst h1
        simp [hz]
      have htr2 : tree (idsS ss en) (nextS ss en) g = tr := by rw [HX.out.1, ← hg]; rfl
      have hch := upTo_child (tr := tr) (ns := ns) (b := b) (js := begIds ss en t ss.length) hkn
      rw [← HU.out] at hch
      rw [hnk] at hch
      have hN2 := HN.out
      rw [← HX.out.1, ← HX.out.2.1] at hN2
      have hroom : U.length + (tr U.length (z : Int) (t.push z.toUInt8)).length ≤ 1000 := by
        simp only at hch; omega
      have hkl : U.length ≤ 1000 := by omega
      obtain ⟨T, hT⟩ : ∃ T, T = tr U.length (z : Int) (t.push z.toUInt8) := ⟨_, rfl⟩
      have HTT := Lib.hid hT
      have HCALL : Hid (∀ X, Row X a (strs ss) → Fo base (.slice (some ⟨G, 0, none⟩) U.length cp) U vl ys X → base ≤ X.heap.size →
          Calls Try.prog 62 #[.agg #[.slice a ss.length c, .int .i64 en], .slice (some ⟨G, 0, none⟩) U.length cp, .string (t ++ (⟨#[z.toUInt8]⟩ : ByteArray)), .int .i64 z] X
            (GrowPost base T U (.slice (some ⟨G, 0, none⟩) U.length cp) vl X)) := Lib.hid (fun X h1 h2 h3 => by
        have := HIH.out g hg (t.push z.toUInt8) z U (some ⟨G, 0, none⟩) cp vl ys base X h1 HA.out h2 h3 (by rw [push_size]; omega) (by rw [push_size]; omega) (by rw [htr2]; exact hroom)
        rw [htr2] at this
        rw [push_app, hT]; exact this)
      have hRw : Row wr a (strs ss) := (HR.out.below HBW.out HA.out).below (S1.out.2.below (fun q hq => by
        rcases hq with hq | hq
        · exact (HS0.out.foot (.inl hq)).1
        · obtain ⟨q1, q2, q3⟩ := hq
          exact (HS0.out.foot (.inr ⟨q1, by rw [← HUP.out]; exact q2, q3⟩)).1) (by have := HBW.out.size; omega)) HA.out
      have hBl : w.heap.size < w4.heap.size := HBOX.out.lt
      have hOl4 : O < w4.heap.size := by omega
      have nB := fun q => HNO.out.2 (S1.out.2.foot _ hBl q)
      have nO := fun q => HNO.out.1 (S1.out.2.foot _ hOl4 q)
      have hwz : IntKind.u8.wrap (z : Int) = (z : Int) := by rw [IntKind.wrap_u8]; omega
      have hconv : Sem.run Try.prog (convert 22 9 (.slice (some ⟨wr.heap.size, 0, none⟩) 1 1)) (wr.alloc (.cells #[.int .u8 z] 5)).drew = .ok (.string ⟨#[z.toUInt8]⟩) (wr.alloc (.cells #[.int .u8 z] 5)).drew := by
        have := run_convert_bytes_back (P := Try.prog) (wr.alloc (.cells #[.int .u8 z] 5)).drew 22 9 5 ⟨wr.heap.size, 0, none⟩ 1 [z.toUInt8] Try.underlying22 Try.underlying5 Try.underlying9 (fun j hj => by
          obtain rfl : j = 0 := by simp at hj; omega
          have e0 : ((⟨wr.heap.size, 0, none⟩ : Addr).add 0) = ⟨wr.heap.size, 0, none⟩ := by rw [Addr.add_lit]
          rw [e0]
          show (wr.alloc (.cells #[.int .u8 z] 5)).cell? _ = _
          rw [(Own.new wr 5 #[.int .u8 z]).cell]
          simp
          omega)
        exact this
      rw [← hT] at hroom
      have HZ := Lib.hid (And.intro hz (And.intro hnk hroom))
      have hTl : U.length + T.length ≤ 1000 := hroom
      clear hT
      have HRW := Lib.hid hRw
      have HNB := Lib.hid (And.intro nB nO)
      have hbsz : base ≤ wr.heap.size := by have h1 := S1.out.2.size; have h2 := HBW.out.size; omega
      clear hz hbz hbx hg ht6 hnk htr2 hch hN2 hroom hRw nB nO
      go_wp2_with fail
      refine wp_region_held_drew (S := fun X => X.cell? ⟨w.heap.size, 0, none⟩ = some (.slice a ss.length c) ∧ X.cell? ⟨w.heap.size, 1, none⟩ = some (.int .i64 en) ∧ X.cell? ⟨O, k, none⟩ = some (.int .i64 z)) (by kernel_rfl) ?_ (fun hHeld => ?_)
      · exact ⟨c0, c1, cO⟩
      (first
        | (refine held_take (i := 0) (v := ?_) rfl (by kernel_rfl) (by kernel_rfl) (by kernel_rfl) (fun _ _ _ h => h) (Or.inl ⟨rfl, ?_⟩) (by assumption) ?_; rotate_left; (intro X hSw; (try dsimp only at hSw); (go_simp <;> with_reducible rfl)))
        | (refine held_take (i := 0) (v := undef) rfl (by kernel_rfl) (by kernel_rfl) (by kernel_rfl) (fun _ _ _ h => h) (Or.inr ⟨rfl, rfl⟩) (by assumption) ?_)); simp only [Act.put, List.setIfInBounds_toArray, List.set_cons_zero, List.set_cons_succ]
      (first
        | (refine held_take (i := 1) (v := ?_) rfl (by kernel_rfl) (by kernel_rfl) (by kernel_rfl) (fun _ _ _ h => h) (Or.inl ⟨rfl, ?_⟩) (by assumption) ?_; rotate_left; (intro X hSw; (try dsimp only at hSw); (go_simp <;> with_reducible rfl)))
        | (refine held_take (i := 1) (v := undef) rfl (by kernel_rfl) (by kernel_rfl) (by kernel_rfl) (fun _ _ _ h => h) (Or.inr ⟨rfl, rfl⟩) (by assumption) ?_)); simp only [Act.put, List.setIfInBounds_toArray, List.set_cons_zero, List.set_cons_succ]
      (first
        | (refine held_take (i := 2) (v := ?_) rfl (by kernel_rfl) (by kernel_rfl) (by kernel_rfl) (fun _ _ _ h => h) (Or.inl ⟨rfl, ?_⟩) (by assumption) ?_; rotate_left; (intro X hSw; (try dsimp only at hSw); (go_simp <;> with_reducible rfl)))
        | (refine held_take (i := 2) (v := undef) rfl (by kernel_rfl) (by kernel_rfl) (by kernel_rfl) (fun _ _ _ h => h) (Or.inr ⟨rfl, rfl⟩) (by assumption) ?_)); simp only [Act.put, List.setIfInBounds_toArray, List.set_cons_zero, List.set_cons_succ]
      (first
        | (refine held_take (i := 3) (v := ?_) rfl (by kernel_rfl) (by kernel_rfl) (by kernel_rfl) (fun _ _ _ h => h) (Or.inl ⟨rfl, ?_⟩) (by assumption) ?_; rotate_left; (intro X hSw; (try dsimp only at hSw); (go_simp <;> with_reducible rfl)))
        | (refine held_take (i := 3) (v := undef) rfl (by kernel_rfl) (by kernel_rfl) (by kernel_rfl) (fun _ _ _ h => h) (Or.inr ⟨rfl, rfl⟩) (by assumption) ?_)); simp only [Act.put, List.setIfInBounds_toArray, List.set_cons_zero, List.set_cons_succ]
      (first
        | (refine held_take (i := 4) (v := ?_) rfl (by kernel_rfl) (by kernel_rfl) (by kernel_rfl) (fun _ _ _ h => h) (Or.inl ⟨rfl, ?_⟩) (by assumption) ?_; rotate_left; (intro X hSw; (try dsimp only at hSw); (go_simp <;> with_reducible rfl)))
        | (refine held_take (i := 4) (v := undef) rfl (by kernel_rfl) (by kernel_rfl) (by kernel_rfl) (fun _ _ _ h => h) (Or.inr ⟨rfl, rfl⟩) (by assumption) ?_)); simp only [Act.put, List.setIfInBounds_toArray, List.set_cons_zero, List.set_cons_succ]
      (first
        | (refine held_take (i := 5) (v := ?_) rfl (by kernel_rfl) (by kernel_rfl) (by kernel_rfl) (fun _ _ _ h => h) (Or.inl ⟨rfl, ?_⟩) (by assumption) ?_; rotate_left; (intro X hSw; (try dsimp only at hSw); (go_simp <;> with_reducible rfl)))
        | (refine held_take (i := 5) (v := undef) rfl (by kernel_rfl) (by kernel_rfl) (by kernel_rfl) (fun _ _ _ h => h) (Or.inr ⟨rfl, rfl⟩) (by assumption) ?_)); simp only [Act.put, List.setIfInBounds_toArray, List.set_cons_zero, List.set_cons_succ]
      (first
        | (refine held_take (i := 6) (v := ?_) rfl (by kernel_rfl) (by kernel_rfl) (by kernel_rfl) (fun _ _ _ h => h) (Or.inl ⟨rfl, ?_⟩) (by assumption) ?_; rotate_left; (intro X hSw; (try dsimp only at hSw); (go_simp <;> with_reducible rfl)))
        | (refine held_take (i := 6) (v := undef) rfl (by kernel_rfl) (by kernel_rfl) (by kernel_rfl) (fun _ _ _ h => h) (Or.inr ⟨rfl, rfl⟩) (by assumption) ?_)); simp only [Act.put, List.setIfInBounds_toArray, List.set_cons_zero, List.set_cons_succ]
      (first
        | (refine held_take (i := 7) (v := ?_) rfl (by kernel_rfl) (by kernel_rfl) (by kernel_rfl) (fun _ _ _ h => h) (Or.inl ⟨rfl, ?_⟩) (by assumption) ?_; rotate_left; (intro X hSw; (try dsimp only at hSw); (go_simp <;> with_reducible rfl)))
        | (refine held_take (i := 7) (v := undef) rfl (by kernel_rfl) (by kernel_rfl) (by kernel_rfl) (fun _ _ _ h => h) (Or.inr ⟨rfl, rfl⟩) (by assumption) ?_)); simp only [Act.put, List.setIfInBounds_toArray, List.set_cons_zero, List.set_cons_succ]
      (first
        | (refine held_take (i := 11) (v := ?_) rfl (by kernel_rfl) (by kernel_rfl) (by kernel_rfl) (fun _ _ _ h => h) (Or.inl ⟨rfl, ?_⟩) (by assumption) ?_; rotate_left; (intro X hSw; (try dsimp only at hSw); (go_simp <;> with_reducible rfl)))
        | (refine held_take (i := 11) (v := undef) rfl (by kernel_rfl) (by kernel_rfl) (by kernel_rfl) (fun _ _ _ h => h) (Or.inr ⟨rfl, rfl⟩) (by assumption) ?_)); simp only [Act.put, List.setIfInBounds_toArray, List.set_cons_zero, List.set_cons_succ]
      (first
        | (refine held_take (i := 12) (v := ?_) rfl (by kernel_rfl) (by kernel_rfl) (by kernel_rfl) (fun _ _ _ h => h) (Or.inl ⟨rfl, ?_⟩) (by assumption) ?_; rotate_left; (intro X hSw; (try dsimp only at hSw); (go_simp <;> with_reducible rfl)))
        | (refine held_take (i := 12) (v := undef) rfl (by kernel_rfl) (by kernel_rfl) (by kernel_rfl) (fun _ _ _ h => h) (Or.inr ⟨rfl, rfl⟩) (by assumption) ?_)); simp only [Act.put, List.setIfInBounds_toArray, List.set_cons_zero, List.set_cons_succ]
      (first
        | (refine held_take (i := 13) (v := ?_) rfl (by kernel_rfl) (by kernel_rfl) (by kernel_rfl) (fun _ _ _ h => h) (Or.inl ⟨rfl, ?_⟩) (by assumption) ?_; rotate_left; (intro X hSw; (try dsimp only at hSw); (go_simp <;> with_reducible rfl)))
        | (refine held_take (i := 13) (v := undef) rfl (by kernel_rfl) (by kernel_rfl) (by kernel_rfl) (fun _ _ _ h => h) (Or.inr ⟨rfl, rfl⟩) (by assumption) ?_)); simp only [Act.put, List.setIfInBounds_toArray, List.set_cons_zero, List.set_cons_succ]
      (first
        | (refine held_take (i := 14) (v := ?_) rfl (by kernel_rfl) (by kernel_rfl) (by kernel_rfl) (fun _ _ _ h => h) (Or.inl ⟨rfl, ?_⟩) (by assumption) ?_; rotate_left; (intro X hSw; (try dsimp only at hSw); (go_simp <;> with_reducible rfl)))
        | (refine held_take (i := 14) (v := undef) rfl (by kernel_rfl) (by kernel_rfl) (by kernel_rfl) (fun _ _ _ h => h) (Or.inr ⟨rfl, rfl⟩) (by assumption) ?_)); simp only [Act.put, List.setIfInBounds_toArray, List.set_cons_zero, List.set_cons_succ]
      refine wpAnyH_ready (rs := [8]) (by kernel_rfl) (by simp) ?_
      refine AllReadyH.cons rfl (fun K hK => ?_) AllReadyH.nil
      go_simp
      refine hK.out _ _ ?_ (fun hHeld => ?_)
      · exact ⟨cell_alloc c0 _, cell_alloc c1 _, cell_alloc cO _⟩
      clear hK K
      refine wpAnyH_ready (rs := [9]) (by kernel_rfl) (by simp) ?_
      refine AllReadyH.cons rfl (fun K hK => ?_) AllReadyH.nil
      go_simp
      refine hK.out _ _ ?_ (fun hHeld => ?_)
      · exact ⟨cell_alloc c0 _, cell_alloc c1 _, cell_alloc cO _⟩
      clear hK K
      refine wpAnyH_ready (rs := [10]) (by kernel_rfl) (by simp) ?_
      refine AllReadyH.cons rfl (fun K hK => ?_) AllReadyH.nil
      go_simp
      rw [if_neg (by omega)]
      go_simp
      refine hK.out _ _ ?_ (fun hHeld => ?_)
      · exact ⟨cell_alloc c0 _, cell_alloc c1 _, cell_alloc cO _⟩
      clear hK K
      refine wpAnyH_ready (rs := [15]) (by kernel_rfl) (by simp) ?_
      refine AllReadyH.cons rfl (fun K hK => ?_) AllReadyH.nil
      go_simp
      go_wp2_with (go_at_call 62; refine (HCALL.out _ ((HRW.out.alloc _).drew) ((S1.out.1.alloc _).drew) ?_).mono ?_; (show base ≤ (wr.alloc _).heap.size; rw [World.size_alloc]; omega); rintro e w5 ⟨A5, cp5, vl5, ys5, rfl, hF5, hFr5⟩)
      refine hK.out _ _ ?_ (fun hHeld => ?_)
      · exact ⟨hFr5.cell (cell_alloc c0 _) HNB.out.1, hFr5.cell (cell_alloc c1 _) HNB.out.1, hFr5.cell (cell_alloc cO _) HNB.out.2⟩
      clear hK K
      (first
        | (refine held_take (i := 16) (v := ?_) rfl (by kernel_rfl) (by kernel_rfl) (by kernel_rfl) (fun _ _ _ h => h) (Or.inl ⟨rfl, ?_⟩) (by assumption) ?_; rotate_left; (intro X hSw; (try dsimp only at hSw); (go_simp <;> with_reducible rfl)))
        | (refine held_take (i := 16) (v := undef) rfl (by kernel_rfl) (by kernel_rfl) (by kernel_rfl) (fun _ _ _ h => h) (Or.inr ⟨rfl, rfl⟩) (by assumption) ?_)); simp only [Act.put, List.setIfInBounds_toArray, List.set_cons_zero, List.set_cons_succ]
      (first
        | (refine held_take (i := 17) (v := ?_) rfl (by kernel_rfl) (by kernel_rfl) (by kernel_rfl) (fun _ _ _ h => h) (Or.inl ⟨rfl, ?_⟩) (by assumption) ?_; rotate_left; (intro X hSw; (try dsimp only at hSw); (go_simp <;> with_reducible rfl)))
        | (refine held_take (i := 17) (v := undef) rfl (by kernel_rfl) (by kernel_rfl) (by kernel_rfl) (fun _ _ _ h => h) (Or.inr ⟨rfl, rfl⟩) (by assumption) ?_)); simp only [Act.put, List.setIfInBounds_toArray, List.set_cons_zero, List.set_cons_succ]
      (first
        | (refine held_take (i := 18) (v := ?_) rfl (by kernel_rfl) (by kernel_rfl) (by kernel_rfl) (fun _ _ _ h => h) (Or.inl ⟨rfl, ?_⟩) (by assumption) ?_; rotate_left; (intro X hSw; (try dsimp only at hSw); (go_simp <;> with_reducible rfl)))
        | (refine held_take (i := 18) (v := undef) rfl (by kernel_rfl) (by kernel_rfl) (by kernel_rfl) (fun _ _ _ h => h) (Or.inr ⟨rfl, rfl⟩) (by assumption) ?_)); simp only [Act.put, List.setIfInBounds_toArray, List.set_cons_zero, List.set_cons_succ]
      (first
        | (refine held_take (i := 19) (v := ?_) rfl (by kernel_rfl) (by kernel_rfl) (by kernel_rfl) (fun _ _ _ h => h) (Or.inl ⟨rfl, ?_⟩) (by assumption) ?_; rotate_left; (intro X hSw; (try dsimp only at hSw); (go_simp <;> with_reducible rfl)))
        | (refine held_take (i := 19) (v := undef) rfl (by kernel_rfl) (by kernel_rfl) (by kernel_rfl) (fun _ _ _ h => h) (Or.inr ⟨rfl, rfl⟩) (by assumption) ?_)); simp only [Act.put, List.setIfInBounds_toArray, List.set_cons_zero, List.set_cons_succ]
      (first
        | (refine held_take (i := 20) (v := ?_) rfl (by kernel_rfl) (by kernel_rfl) (by kernel_rfl) (fun _ _ _ h => h) (Or.inl ⟨rfl, ?_⟩) (by assumption) ?_; rotate_left; (intro X hSw; (try dsimp only at hSw); (go_simp <;> with_reducible rfl)))
        | (refine held_take (i := 20) (v := undef) rfl (by kernel_rfl) (by kernel_rfl) (by kernel_rfl) (fun _ _ _ h => h) (Or.inr ⟨rfl, rfl⟩) (by assumption) ?_)); simp only [Act.put, List.setIfInBounds_toArray, List.set_cons_zero, List.set_cons_succ]
      refine wpAnyH_done (by kernel_rfl) ?_ _
      have hUn : ns.length < U.length := by rw [HU.out, upTo_length]; omega
      have hUT : (U ++ T).length = U.length + T.length := by simp
      obtain ⟨G5, c5, e5⟩ := own_some hF5.row (by omega)
      injection e5 with e5 e6 e7
      subst e5 e7
      have hq : 2 * ns.length < 2 * (U ++ T).length := by omega
      have hat : ns.length < (U ++ T).length := by omega
      have o1 := hF5.own (2 * ns.length) hq
      have hkl2 : (lst (U ++ T) (2 * ns.length)).length ≤ 256 := by
        rw [lst_kid hat, List.getElem_append_left hUn, ← lst_kid hUn, HU.out, upTo_kids, forest_kids]
        simp
        have := HX.out.2.2.2.1
        omega
      obtain ⟨K, kc, ek⟩ := own_form o1
      have c1' : w5.cell? ⟨G5, ns.length * 3 + 1, none⟩ = some (.slice K (lst (U ++ T) (2 * ns.length)).length kc) := by
        rw [← ek, hF5.row.cellAt _ (by omega)]; exact (hF5.cel ns.length hat).2.1
      have hG5 := hF5.row.lt G5 rfl
      have HF5 := Lib.hid (And.intro hF5 hFr5)
      have HEK := Lib.hid ek
      have HUT := Lib.hid hUT
      have hrF := hF5.row
      have hap := hF5.rowApt hq (k := G5) rfl
      rw [ek] at o1 hap
      have HRF := Lib.hid (And.intro hrF (And.intro o1 hap))
      clear hF5 hFr5 ek hUT e6 hrF o1 hap
      have hatz : (ns.length : Int) < (U.length : Int) + (T.length : Int) := by omega
      have hatn : ns.length < U.length + T.length := by omega
      obtain ⟨m, hm⟩ : ∃ m, m = (lst (U ++ T) (2 * ns.length)).length := ⟨_, rfl⟩
      rw [← hm] at c1' HRF hkl2
      have HM := Lib.hid hm
      clear hm
      go_wp2_with (at_builtin; refine wpList_append_own_at _ rfl _ _ 26 rfl base 3 j0 (.int .i64 0) 1 8 Try.underlying26 HJ.out.1 HJ.out.2.1 HJ.out.2.2.1 HJ.out.2.2.2 rfl (by decide) _ _ _ rfl (HRF.out.2.1.alloc _) ⟨w5.heap.size, 0, none⟩ 1 1 [.int .i64 U.length] rfl rfl (cell_one_new _ _ _) ?d2 ?d3 ?d4 ?d5 ?_)
      case d2 => (intro u hu; simp at hu; subst hu; rfl)
      case d3 => unfold maxLen; omega
      case d4 => omega
      case d5 => (have h1 := hG5; simp; omega)
      intro v' w7 hown' hgrow _ hblk
      obtain ⟨K7, k7, rfl⟩ := own_form hown'
      have hrow7 := (HRF.out.1.alloc (.cells #[.int .i64 U.length] 3)).kept hgrow (.inr (fun e => HRF.out.2.2 e.symm))
      obtain ⟨v7, c7⟩ : ∃ x, w7.cell? ⟨G5, ns.length * 3 + 1, none⟩ = some x := ⟨_, (hrow7.cellAt (ns.length * 3 + 1) (by rw [HUT.out]; omega)).trans (List.getElem?_eq_getElem (by rw [hrow7.1, HUT.out]; omega))⟩
      have f7 := hrow7.frozenAt (ns.length * 3 + 1)
      have h7 := (hrow7.lt G5 rfl).2
      have hP : Hid (Fo base (.slice (some ⟨G5, 0, none⟩) (U ++ T).length cp5) (moreAt (U ++ T) (2 * ns.length) U.length) (upd vl5 (2 * ns.length) (.slice K7 (m + 1) k7)) (ys5.set (ns.length * 3 + 1) (.slice K7 (m + 1) k7)) (w7.setCell ⟨G5, ns.length * 3 + 1, none⟩ (.slice K7 (m + 1) k7)) ∧
          Fr (Foot (.slice (some ⟨G4, 0, none⟩) (ns.length + 1) c4) (ns.length + 1) val4) (Foot (.slice (some ⟨G5, 0, none⟩) (U ++ T).length cp5) (moreAt (U ++ T) (2 * ns.length) U.length).length (upd vl5 (2 * ns.length) (.slice K7 (m + 1) k7))) w4 (w7.setCell ⟨G5, ns.length * 3 + 1, none⟩ (.slice K7 (m + 1) k7))) := by
        have e1 : 2 * ns.length / 2 * 3 + 1 + 2 * ns.length % 2 = ns.length * 3 + 1 := by omega
        have hg2 : (w5.alloc (.cells #[.int .i64 U.length] 3)).grownBy w7 (vl5 (2 * ns.length)).ownBlock := by rw [HEK.out, ← HM.out]; exact hgrow
        have hb2 : (Value.slice K7 (m + 1) k7).ownBlock = (vl5 (2 * ns.length)).ownBlock ∨ (Value.slice K7 (m + 1) k7).ownBlock = some (w5.heap.size + 1) := by rw [HEK.out, ← HM.out]; exact hblk
        have h1 := (HF5.out.1.alloc (.cells #[.int .i64 U.length] 3)).put (x := (U.length : Int)) hq hg2 (by rw [← HM.out]; exact hown') (by rw [World.size_alloc]; exact hb2)
        rw [e1] at h1
        have h2 := ((S1.out.2.trans (Fr.of_below _ (((below_box (.cells #[.int .u8 z] 5))).drew))).trans HF5.out.2).trans (Fr.of_below _ (below_box (.cells #[.int .i64 U.length] 3)))
        have h3 := h2.put (x := (U.length : Int)) (c := ns.length * 3 + 1) (v' := .slice K7 (m + 1) k7) hq hg2 (by rw [World.size_alloc]; exact hb2)
        exact ⟨h1, h3⟩
      clear hown' hgrow hblk hrow7
      have hfit : Hid (moreAt (U ++ T) (2 * ns.length) U.length = upTo tr ns b (begIds ss en t ss.length) nx (k + 1)) := by
        have := upTo_step (tr := tr) (ns := ns) (b := b) (js := begIds ss en t ss.length) hkn
        rw [HZ.out.2.1, ← HU.out] at this
        rw [HTT.out]; exact this
      have hlen : Hid (U.length + T.length = (upTo tr ns b (begIds ss en t ss.length) nx (k + 1)).length) := by
        show _ = _
        rw [← hfit.out, moreAt_length, HUT.out]
      go_wp2
      go_roundg (bs.length - (k + 1))
      case measure => omega
      case rel =>
        refine ⟨k + 1, G5, cp5, upd vl5 (2 * ns.length) (.slice K7 (m + 1) k7), ys5.set (ns.length * 3 + 1) (.slice K7 (m + 1) k7), by omega, by omega, by go_num, by rw [← hlen.out], ?_⟩
        have := hP.out
        rw [hfit.out] at this
        have e2 := hlen.out
        rw [← HUT.out] at e2
        rw [e2] at this
        exact this
    · have hlt' : ¬ (k : Int) < (bs.length : Int) := by omega
      obtain rfl : k = bs.length := by omega
      have hfin : Hid (U = ns ++ tree (idsS ss en) (nextS ss en) f ns.length b t) := by
        show _ = _
        rw [HU.out, HT.out, ← HX.out.1, ← HX.out.2.1, ← HX.out.2.2.2.1, upTo_all]
        rfl
      go_wp2
      go_ret2
      refine ⟨some ⟨G, 0, none⟩, cp, vl, ys, ?_, ?_, ?_⟩
      · rw [← hfin.out]; rfl
      · rw [← hfin.out]; exact S1.out.1
      · rw [← hfin.out]; exact HFR.out.trans S1.out.2

theorem grow_any (a : Option Addr) (c : Nat) (ss : List ByteArray) (en : Int) (hl : ss.length ≤ 40) (hs : ∀ s ∈ ss, s.size ≤ 6) : ∀ f, GrowsTo a c ss en f
  | 0 => grow_step a c ss en hl hs 0 (fun g h => by omega)
  | f + 1 => grow_step a c ss en hl hs (f + 1) (fun g h => by
    obtain rfl : g = f := by omega
    exact grow_any a c ss en hl hs g)

end Go.Proofs.Ytcanhkngikeeiaa
