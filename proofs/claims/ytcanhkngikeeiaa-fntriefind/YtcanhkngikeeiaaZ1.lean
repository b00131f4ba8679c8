/- What DrawTrieFind has in memory while it draws: the reader, the vocabulary, the nodes. -/
import Derived.Test.YtcanhkngikeeiaaD7
import Derived.Test.YtcanhkngikeeiaaY1
namespace Go.Proofs.Ytcanhkngikeeiaa
open Go.RowKit
set_option linter.unusedVariables false

structure TF (w0 : World) (g N V : Nat) (en : Int) (ss : List ByteArray) (A : Option Addr) (cap : Nat) (u : Value) (ns : List Node) (val : Nat → Value) (xs : List Value) (w : World) : Prop where
  v : Own w V 25 [.slice A ss.length cap, .int .i64 en]
  p : w.ownsRow (g + 1) 9 1 (.slice A ss.length cap) ss.length (strs ss)
  rd : Rd w (g + 1) g N
  f : Fo (g + 1) u ns val xs w
  b : Below w0.heap.size w0 w
  rg : w0.heap.size ≤ g
  bv : g < V

section
variable {w0 w w' : World} {g N N' V : Nat} {en : Int} {ss : List ByteArray} {A : Option Addr} {cap : Nat} {v : Value} {ns : List Node} {val : Nat → Value} {xs : List Value}
theorem TF.size (h : TF w0 g N V en ss A cap v ns val xs w) : V < w.heap.size := h.v.lt
theorem TF.c0 (h : TF w0 g N V en ss A cap v ns val xs w) : w.cell? ⟨V, 0, none⟩ = some (.slice A ss.length cap) := by rw [h.v.cell]; rfl
theorem TF.touch (h : TF w0 g N V en ss A cap v ns val xs w) (hg : w.grownBy w' (some g)) (hr : Rd w' (g + 1) g N') : TF w0 g N' V en ss A cap v ns val xs w' :=
  ⟨own_touch h.v hg (by have := h.bv; omega), own_old h.p hg (by omega), hr, h.f.away hg (fun k hk hF => by injection hk with hk; have := (h.f.foot hF).1; omega),
    h.b.grown hg h.b.size (fun k hk => by injection hk with hk; have := h.rg; omega), h.rg, h.bv⟩
theorem TF.drew (h : TF w0 g N V en ss A cap v ns val xs w) : TF w0 g N V en ss A cap v ns val xs w.drew := ⟨h.v, h.p, h.rd.drew, h.f.drew, h.b.drew, h.rg, h.bv⟩
theorem TF.alloc (h : TF w0 g N V en ss A cap v ns val xs w) (o : Obj) : TF w0 g N V en ss A cap v ns val xs (w.alloc o) :=
  ⟨h.v.alloc o, h.p.alloc o, h.rd.alloc (by have := h.size; have := h.bv; omega) o, h.f.alloc o, h.b.alloc h.b.size o, h.rg, h.bv⟩
theorem TF.mono (h : TF w0 g N V en ss A cap v ns val xs w) (hN : N ≤ N') : TF w0 g N' V en ss A cap v ns val xs w := ⟨h.v, h.p, h.rd.mono (Nat.le_refl _) hN, h.f, h.b, h.rg, h.bv⟩
theorem TF.row (h : TF w0 g N V en ss A cap v ns val xs w) : Row w A (strs ss) := own_row h.p
end

def strAt (ss : List ByteArray) (i : Nat) : ByteArray := ss.getD i ⟨#[]⟩
theorem TF.strD {w0 w : World} {g N V : Nat} {en : Int} {ss : List ByteArray} {ab ao : Nat} {cap : Nat} {v : Value} {ns : List Node} {val : Nat → Value} {xs : List Value} (h : TF w0 g N V en ss (some ⟨ab, ao, none⟩) cap v ns val xs w) : ∀ i, i < ss.length → w.cell? ⟨ab, ao + i, none⟩ = some (.string (strAt ss i)) := by
  intro i hi
  obtain ⟨b, o, e, hc⟩ := h.row.str hi
  injection e with e
  injection e with e1 e2
  subst e1 e2
  simpa [strAt, hi] using hc

/-- A node's first list is written over by a row of its own. -/
theorem Fo.nodes_set {base G cap i : Nat} {K : Option Addr} {kc : Nat} {l : List Int} {ns : List Node} {val : Nat → Value} {xs : List Value} {w : World} (h : Fo base (.slice (some ⟨G, 0, none⟩) ns.length cap) ns val xs w) (hi : i < ns.length) (hk : w.ownsRow base 3 1 (.slice K l.length kc) l.length (ints l)) :
    Nodes (w.setCell ⟨G, i * 3 + 1, none⟩ (.slice K l.length kc)) (some ⟨G, 0, none⟩) (ns.set i { ns[i] with kids := l }) := by
  have hxl := h.row.1
  have hrow := h.row
  have far : ∀ {u : Value} {n : Nat} {ys : List Value}, w.ownsRow base 3 1 u n ys → (w.setCell ⟨G, i * 3 + 1, none⟩ (.slice K l.length kc)).ownsRow base 3 1 u n ys := by
    intro u n ys hu
    refine ⟨hu.1, ?_⟩
    rcases hu.2 with ⟨e1, e2⟩ | ⟨g, c, cur, e1, e2, e3, e4⟩
    · exact .inl ⟨e1, e2⟩
    · refine .inr ⟨g, c, cur, e1, e2, (Below.heap_setCell w _ _ g ?_).trans e3, e4⟩
      intro e
      simp only at e
      subst e
      obtain ⟨c1, q1⟩ := kind hrow (k := g) rfl
      rw [q1] at e3
      injection e3 with e3
      injection e3 with _ e3
      cases e3
  have hrow2 := (hrow.stored (i * 3 + 1) (.slice K l.length kc)).1
  refine .inr ⟨G, 0, rfl, fun j hj => ?_⟩
  have hj' : j < ns.length := by simpa using hj
  obtain ⟨h1, h2, h3⟩ := h.cel j hj'
  have o1 := far (h.own (2 * j) (by omega))
  have o2 := far (h.own (2 * j + 1) (by omega))
  rw [lst_kid hj'] at o1
  rw [lst_ids hj'] at o2
  obtain ⟨K1, kc1, ek⟩ := own_form o1
  obtain ⟨J1, jc1, ej⟩ := own_form o2
  rw [ek] at o1 h2
  rw [ej] at o2 h3
  by_cases e : i = j
  · subst e
    rw [List.getElem_set_self]
    refine ⟨K, kc, J1, jc1, ?_, ?_, ?_, own_row (far hk), own_row o2⟩
    · rw [Nat.zero_add, hrow2.cellAt _ (by first | omega | (simp; omega)), List.getElem?_set_ne (by omega)]; exact h1
    · rw [Nat.zero_add, hrow2.cellAt _ (by first | omega | (simp; omega)), List.getElem?_set_self (by omega)]
    · rw [Nat.zero_add, hrow2.cellAt _ (by first | omega | (simp; omega)), List.getElem?_set_ne (by omega)]; exact h3
  · rw [List.getElem_set_ne e]
    refine ⟨K1, kc1, J1, jc1, ?_, ?_, ?_, own_row o1, own_row o2⟩
    · rw [Nat.zero_add, hrow2.cellAt _ (by first | omega | (simp; omega)), List.getElem?_set_ne (by omega)]; exact h1
    · rw [Nat.zero_add, hrow2.cellAt _ (by first | omega | (simp; omega)), List.getElem?_set_ne (by omega)]; exact h2
    · rw [Nat.zero_add, hrow2.cellAt _ (by first | omega | (simp; omega)), List.getElem?_set_ne (by omega)]; exact h3
theorem small_set {ns : List Node} {i : Nat} {l : List Int} (h : Small ns) (hi : i < ns.length) (hl : l.length ≤ 1048576) : Small (ns.set i { ns[i] with kids := l }) := by
  intro n hn
  rcases List.mem_or_eq_of_mem_set hn with q | q
  · exact h n q
  · subst q
    exact ⟨hl, (h _ (List.getElem_mem hi)).2⟩
theorem small_more {ns : List Node} {x : Int} (h : Tiny ns) (hi : 1 < ns.length) : Small (moreAt ns 2 x) := by
  intro n hn
  unfold moreAt at hn
  rcases List.mem_or_eq_of_mem_set hn with q | q
  · have := h n q; omega
  · subst q
    have := h _ (List.getElem_mem hi)
    simp [Node.more, hi]
    omega
theorem fo_some {base : Nat} {A : Option Addr} {cap : Nat} {ns : List Node} {val : Nat → Value} {xs : List Value} {w : World} (h : Fo base (.slice A ns.length cap) ns val xs w) (h0 : 0 < ns.length) : ∃ G, A = some ⟨G, 0, none⟩ := by
  rcases h.row.2 with ⟨e1, e2⟩ | ⟨g, c, cur, e1, e2, e3, e4⟩
  · omega
  · injection e1 with e1
    exact ⟨g, e1⟩
theorem TF.c4 {w0 w : World} {g N V : Nat} {en : Int} {ss : List ByteArray} {A : Option Addr} {cap G c3 : Nat} {L : List Node} {vl : Nat → Value} {xs : List Value} {u : Value} (h : TF w0 g N V en ss A cap (.slice (some ⟨G, 0, none⟩) L.length c3) L vl xs w) (hL : 2 < L.length) (hu : vl 2 = u) : w.cell? ⟨G, 4, none⟩ = some u := by
  rw [h.f.row.cellAt 4 (by omega), ← hu]
  exact (h.f.cel 1 (by omega)).2.1
theorem TF.put {w0 w w' : World} {g N V : Nat} {en : Int} {ss : List ByteArray} {A : Option Addr} {cap G c3 : Nat} {L : List Node} {vl : Nat → Value} {xs : List Value} {u v' : Value} {x : Int} (h : TF w0 g N V en ss A cap (.slice (some ⟨G, 0, none⟩) L.length c3) L vl xs w) (hL : 2 < L.length) (hT : Tiny L) (hu : vl 2 = u)
    (hg : w.grownBy w' u.ownBlock) (ho : w'.ownsRow (g + 1) 3 1 v' ((lst L 2).length + 1) (ints (lst L 2) ++ [.int .i64 x])) (hb : v'.ownBlock = u.ownBlock ∨ v'.ownBlock = some w.heap.size) :
    (∃ c, w'.cell? ⟨G, 4, none⟩ = some c) ∧ w'.frozen? ⟨G, 4, none⟩ = false ∧ (∃ ns, ns.length = L.length ∧ Small ns ∧ Nodes (w'.setCell ⟨G, 4, none⟩ v') (some ⟨G, 0, none⟩) ns) ∧ Below w0.heap.size w0 (w'.setCell ⟨G, 4, none⟩ v') := by
  subst hu
  have hrow := h.f.row.kept hg (.inr (fun e => h.f.rowApt (q := 2) (by omega) (k := G) rfl e.symm))
  have hp := h.f.put (q := 2) (x := x) (by omega) hg ho hb
  have hGb := (h.f.row.lt G rfl).1
  have hrg := h.rg
  refine ⟨⟨_, (hrow.cellAt 4 (by omega)).trans (List.getElem?_eq_getElem (by rw [hrow.1]; omega))⟩, hrow.frozenAt 4, ⟨moreAt L 2 x, by simp, small_more hT (by omega), ?_⟩, ?_⟩
  · have : Fo (g + 1) (.slice (some ⟨G, 0, none⟩) (moreAt L 2 x).length c3) (moreAt L 2 x) (upd vl 2 v') (xs.set 4 v') (w'.setCell ⟨G, 4, none⟩ v') := by rw [moreAt_length]; exact hp
    exact this.nodes
  · refine (h.b.grown hg h.b.size (fun k hk => ?_)).setCell (by simp; omega) _
    have := ((h.f.own 2 (by omega)).lt k hk).1
    omega
theorem four_cell {w : World} {B z : Nat} {a b c d : Int} (h : Own w B 3 [.int .i64 a, .int .i64 b, .int .i64 c, .int .i64 d]) (hz : z < 4) : ∃ x : Int, w.cell? ⟨B, z, none⟩ = some (.int .i64 x) := by
  rw [h.cell]
  match z, hz with
  | 0, _ => exact ⟨a, rfl⟩
  | 1, _ => exact ⟨b, rfl⟩
  | 2, _ => exact ⟨c, rfl⟩
  | 3, _ => exact ⟨d, rfl⟩
theorem cell_one_new' (w : World) (x : Int) : ∀ j u, ([.int .i64 x] : List Value)[j]? = some u → (w.alloc (.cells #[.int .i64 x] 3)).cell? ((⟨w.heap.size, 0, none⟩ : Addr).add j) = some u := new_cells w [.int .i64 x] 3

/-- Nodes and a text are drawn. -/
def DrawFindPost (w : World) (e : Ending) (w' : World) : Prop :=
  ∃ (ns : List Node) (A : Option Addr) (cap : Nat) (t : ByteArray), e = .returned (.tuple #[.slice A ns.length cap, .string t]) ∧ ns.length ≤ 241 ∧ Small ns ∧ t.size ≤ 1000 ∧ Nodes w' A ns ∧ Below w.heap.size w w'

set_option maxRecDepth 100000 in
set_option maxHeartbeats 2000000 in
theorem drawFind_any (C : Option Addr) (ccap : Nat) (zs : List Int) (w : World) (hrow : Row w C (byts zs)) (hz : zs.length ≤ 1048576) (hcap : zs.length ≤ ccap) (hzs : ∀ z ∈ zs, 0 ≤ z ∧ z ≤ 255) :
    Calls Try.prog 34 #[.slice C zs.length ccap] w (DrawFindPost w) := by
  have HR := Lib.hid hrow
  have HZ := Lib.hid hzs
  clear hrow hzs
  go_enter Try.func34, Try.ntmps34
  go_wp2_with fail
  refine (open_any C ccap zs _ HR.out hz hcap HZ.out).mono ?_
  rintro e w1 ⟨g, rfl, hg, hrd1, hb1⟩
  have hg1 := hrd1.lt
  go_wp2_with fail
  refine (voc_any (g + 1) g 0 _ hrd1 (by omega) (by omega)).mono ?_
  rintro e w2 ⟨ss, en, A, cap, rfl, hl, hs, he0, he1, hp, hrd2, hg2⟩
  have HS := Lib.hid hs
  have hb2 : Below w.heap.size w w2 := hb1.grown hg2 hb1.size (fun k hk => by injection hk with hk; omega)
  have hsz2 := hg2.size
  have hp2 := own_base hp (show g + 1 ≤ w1.heap.size by omega)
  clear hb1 hp hg2 hs hrd1
  go_wp2_with fail
  refine (specMake_any A cap ss en _ ((own_row hp2).alloc _) (by omega)).mono ?_
  rintro e w3 ⟨A3, c3, vl3, ys3, rfl, hF3, hb3⟩
  have hv3 : Own w3 w2.heap.size 25 [.slice A ss.length cap, .int .i64 en] := by
    have h1 := Own.new w2 25 #[.slice A ss.length cap, .int .i64 en]
    exact h1.keep hb3
  have hb3a : Below (g + 1) (w2.alloc (.cells #[.slice A ss.length cap, .int .i64 en] 25)) w3 := hb3.mono (by simp; omega)
  have hb3b : Below w.heap.size (w2.alloc (.cells #[.slice A ss.length cap, .int .i64 en] 25)) w3 := hb3.mono (by have := hb2.size; simp; omega)
  have HD : TF w g _ w2.heap.size en ss A cap _ (trieOf ss en) vl3 ys3 w3 :=
    ⟨hv3, own_keep (hp2.alloc _) hb3, (hrd2.alloc (by omega) _).below hb3a, hF3.base (by simp; omega), (hb2.alloc hb2.size _).trans hb3b, by omega, by omega⟩
  have HL3 := Lib.hid hb3
  clear hv3 hp2 hrd2 hF3 hb3 hb2 HL3 hb3a hb3b
  generalize hVe : w2.heap.size = V at HD ⊢
  clear hVe
  go_wp2_with fail
  refine (bytes_any (g + 1) g _ 4 _ HD.rd (by have := HD.size; have := HD.bv; omega) (by omega) (by omega) (by omega)).mono ?_
  rintro e w4 ⟨s, rfl, hs, hrd4, hg4⟩
  replace HD := HD.touch hg4 hrd4
  clear hg4 hrd4
  have HSW := Lib.hid (show s.size ≤ 10 by omega)
  clear hs
  replace HD := HD.mono (N' := 2000) (by omega)
  have hsp := HD.size
  go_upto_region 5 with fail
  go_cut [24] (fun b wx => ∃ q : Bool, b = .bool q ∧ (q = true → 0 < ss.length) ∧ TF w g 3000 V en ss A cap (.slice A3 (trieOf ss en).length c3) (trieOf ss en) vl3 ys3 wx)
  case first =>
    have c0 := HD.c0
    by_cases h0 : 0 < ss.length
    · have h0' : (0 : Int) < (ss.length : Int) := by omega
      go_wp2_with fail
      refine (pick_any (g + 1) g _ 2 _ HD.rd (by omega) (by omega) (by omega)).mono ?_
      rintro e w5 ⟨x, rfl, hx0, hx1, hrd5, hg5⟩
      replace HD := HD.touch hg5 hrd5
      clear hg5 hrd5
      go_wp2_with fail
      go_meet
      exact ⟨_, rfl, fun _ => h0, HD.mono (by omega)⟩
    · have h0' : ¬ (0 : Int) < (ss.length : Int) := by omega
      go_wp2_with fail
      go_meet
      exact ⟨_, rfl, fun h => by simp at h, HD.mono (by omega)⟩
  case rest =>
    clear HD
    obtain ⟨q, rfl, hq, HD⟩ := hcut
    go_upto_if 24 with fail
    go_cut [7] (fun t wx => ∃ s : ByteArray, t = .string s ∧ s.size ≤ 10 ∧ TF w g 4000 V en ss A cap (.slice A3 (trieOf ss en).length c3) (trieOf ss en) vl3 ys3 wx)
    case first =>
      cases q with
      | false =>
        go_wp2_with fail
        go_meet
        exact ⟨s, rfl, HSW.out, HD.mono (by omega)⟩
      | true =>
        have h0 := hq rfl
        clear hq
        obtain ⟨ab, ao, rfl, _⟩ := HD.row.str h0
        have c0 := HD.c0
        go_wp2_with fail
        go_region_held3 (fun X => X.cell? ⟨V, 0, none⟩ = some (.slice (some ⟨ab, ao, none⟩) ss.length cap) ∧ ∀ i, i < ss.length → X.cell? ⟨ab, ao + i, none⟩ = some (.string (strAt ss i)))
          (first | exact ⟨HD5.c0, HD5.strD⟩ | exact ⟨c0, HD.strD⟩)
          (first | (go_at_call 51; refine (pick_any (g + 1) g _ ss.length _ HD.drew.rd (by omega) (by omega) (by omega)).mono ?_; rintro e w5 ⟨x, rfl, hx0, hx1, hrd5, hg5⟩; have HD5 := HD.drew.touch hg5 hrd5; obtain ⟨k, rfl⟩ : ∃ k : Nat, x = (k : Int) := ⟨x.toNat, (by omega)⟩; have hk : k < ss.length := (by omega); have hk' : (k : Int) < (ss.length : Int) := (by omega)))
        clear HD c0 hg5 hrd5
        have hsk : (strAt ss k).size ≤ 10 := by
          have := HS.out _ (List.getElem_mem hk)
          simpa [strAt, hk] using this
        generalize strAt ss k = sk at hsk ⊢
        go_wp2_with fail
        go_at_call 51
        refine (pick_any (g + 1) g _ (sk.size + 1) _ HD5.rd (by omega) (by omega) (by omega)).mono ?_
        rintro e w6 ⟨y, rfl, hy0, hy1, hrd6, hg6⟩
        have HD := HD5.touch hg6 hrd6
        obtain ⟨y, rfl⟩ : ∃ k : Nat, y = (k : Int) := ⟨y.toNat, by omega⟩
        have hyk : y ≤ sk.size := by omega
        clear HD5 hg6 hrd6
        go_wp2_with fail
        go_meet
        refine ⟨_, rfl, ?_, HD.mono (by omega)⟩
        simp [ByteArray.size_extract]
        omega
    case rest =>
      clear HD HSW hq
      obtain ⟨s, rfl, hs, HD⟩ := hcut
      have hlen : (trieOf ss en).length ≤ 241 := by
        cases h : vocOkB ss en with
        | false => rw [trie_none h]; simp
        | true => exact (trie_len h).2
      have HT := Lib.hid (trie_tiny (ss := ss) (en := en))
      have HSM := Lib.hid (trie_small (ss := ss) (en := en))
      generalize trieOf ss en = L at HD hlen HT HSM ⊢
      have HSZ := Lib.hid hs
      clear hs
      go_wp2_with fail
      go_at_call 51
      refine (pick_any (g + 1) g _ 10 _ HD.rd (by omega) (by omega) (by omega)).mono ?_
      rintro e w7 ⟨y, rfl, hy0, hy1, hrd7, hg7⟩
      replace HD := HD.touch hg7 hrd7
      clear hg7 hrd7
      by_cases hya : y = 0
      · subst hya
        go_wp2
        exact bodyPost_ret (v := .tuple #[.slice none 0 0, .string s]) (by simp [results, Try.results34, go_sem]) rfl ⟨[], none, 0, s, rfl, by simp, fun n hn => by simp at hn, by have := HSZ.out; omega, .inl rfl, HD.b⟩
      have hya' : (y == 0) = false := by simpa using hya
      by_cases hyb : y = 1
      · subst hyb
        by_cases hL : 1 < L.length
        · have hL' : (1 : Int) < (L.length : Int) := by omega
          obtain ⟨G, rfl⟩ := fo_some HD.f (by omega)
          go_wp2_with fail
          go_at_call 51
          refine (pick_any (g + 1) g _ L.length _ HD.rd (by omega) (by omega) (by omega)).mono ?_
          rintro e w8 ⟨i, rfl, hi0, hi1, hrd8, hg8⟩
          replace HD := HD.touch hg8 hrd8
          clear hg8 hrd8
          obtain ⟨i, rfl⟩ : ∃ k : Nat, i = (k : Int) := ⟨i.toNat, by omega⟩
          have hi : i < L.length := by omega
          have hi' : (i : Int) < (L.length : Int) := by omega
          go_wp2_with fail
          go_at_call 51
          refine (pick_any (g + 1) g _ (L.length + 1) _ HD.rd (by omega) (by omega) (by omega)).mono ?_
          rintro e w9 ⟨z, rfl, hz0, hz1, hrd9, hg9⟩
          replace HD := HD.touch hg9 hrd9
          clear hg9 hrd9
          have HD9 := HD.alloc (.cells #[.int .i64 z] 3)
          have ff := HD9.f.row.frozenAt (i * 3 + 1)
          have cc : (w9.alloc (.cells #[.int .i64 z] 3)).cell? ⟨G, i * 3 + 1, none⟩ = some (vl3 (2 * i)) := by
            rw [HD9.f.row.cellAt _ (by have := HD9.f.row.1; omega)]
            exact (HD9.f.cel i hi).2.1
          go_wp2
          have ho : (w9.alloc (.cells #[.int .i64 z] 3)).ownsRow (g + 1) 3 1 (.slice (some ⟨w9.heap.size, 0, none⟩) [z].length 1) [z].length (ints [z]) := by
            simpa [ints] using World.ownsRow_lit (base := g + 1) (e := 3) (size := 1) w9 #[.int .i64 z] 1 (by have := HD.size; have := HD.bv; omega) (by simp [maxLen]) rfl
          have hN := HD9.f.nodes_set hi ho
          exact bodyPost_ret (v := .tuple #[.slice (some ⟨G, 0, none⟩) L.length c3, .string s]) (by simp [results, Try.results34, go_sem]) rfl ⟨_, some ⟨G, 0, none⟩, c3, s, by rw [List.length_set], by simpa using hlen, small_set HSM.out hi (by simp), by have := HSZ.out; omega, hN, HD9.b.setCell (by have := (HD9.f.row.lt G rfl).1; have := HD9.rg; simp; omega) _⟩
        · have hL' : ¬ (1 : Int) < (L.length : Int) := by omega
          go_wp2
          exact bodyPost_ret (v := .tuple #[.slice A3 L.length c3, .string s]) (by simp [results, Try.results34, go_sem]) rfl ⟨L, A3, c3, s, rfl, hlen, HSM.out, by have := HSZ.out; omega, HD.f.nodes, HD.b⟩
      have hyb' : (y == 1) = false := by simpa using hyb
      by_cases hyc : y = 2
      · subst hyc
        by_cases hL : 2 < L.length
        · have hL' : (2 : Int) < (L.length : Int) := by omega
          have hL1 : (1 : Int) < (L.length : Int) := by omega
          obtain ⟨G, rfl⟩ := fo_some HD.f (by omega)
          obtain ⟨KA, kc, hek⟩ := own_form (HD.f.own 2 (by omega))
          have hkl : (lst L 2).length ≤ 241 := by
            have := HT.out _ (List.getElem_mem (show 1 < L.length by omega))
            rw [show lst L 2 = L[1].kids from lst_kid (i := 1) (by omega)]
            omega
          have HEK := Lib.hid hek
          clear hek
          obtain ⟨j0, hi0, hz0, hz1, hz2⟩ := info_parts info3
          have HJ := Lib.hid (And.intro hi0 (And.intro hz0 (And.intro hz1 hz2)))
          clear hi0 hz0 hz1 hz2
          go_wp2_with fail
          --BEGIN16
          refine wp_region_held_drew (S := fun _ => True) (by kernel_rfl) ?_ (fun hHeld => ?_)
          · trivial
          (first
            | (refine held_take (i := 0) (v := ?_) rfl (by kernel_rfl) (by kernel_rfl) (by kernel_rfl) (fun _ _ _ h => h) (Or.inl ⟨rfl, ?_⟩) (by assumption) ?_; rotate_left; (intro X hSw; (try dsimp only at hSw); (go_simp <;> with_reducible rfl)))
            | (refine held_take (i := 0) (v := undef) rfl (by kernel_rfl) (by kernel_rfl) (by kernel_rfl) (fun _ _ _ h => h) (Or.inr ⟨rfl, rfl⟩) (by assumption) ?_)); simp only [Act.put, List.setIfInBounds_toArray, List.set_cons_zero, List.set_cons_succ]
          (first
            | (refine held_take (i := 1) (v := ?_) rfl (by kernel_rfl) (by kernel_rfl) (by kernel_rfl) (fun _ _ _ h => h) (Or.inl ⟨rfl, ?_⟩) (by assumption) ?_; rotate_left; (intro X hSw; (try dsimp only at hSw); (go_simp <;> with_reducible rfl)))
            | (refine held_take (i := 1) (v := undef) rfl (by kernel_rfl) (by kernel_rfl) (by kernel_rfl) (fun _ _ _ h => h) (Or.inr ⟨rfl, rfl⟩) (by assumption) ?_)); simp only [Act.put, List.setIfInBounds_toArray, List.set_cons_zero, List.set_cons_succ]
          (first
            | (refine held_take (i := 2) (v := ?_) rfl (by kernel_rfl) (by kernel_rfl) (by kernel_rfl) (fun _ _ _ h => h) (Or.inl ⟨rfl, ?_⟩) (by assumption) ?_; rotate_left; (intro X hSw; (try dsimp only at hSw); (go_simp <;> with_reducible rfl)))
            | (refine held_take (i := 2) (v := undef) rfl (by kernel_rfl) (by kernel_rfl) (by kernel_rfl) (fun _ _ _ h => h) (Or.inr ⟨rfl, rfl⟩) (by assumption) ?_)); simp only [Act.put, List.setIfInBounds_toArray, List.set_cons_zero, List.set_cons_succ]
          (first
            | (refine held_take (i := 3) (v := ?_) rfl (by kernel_rfl) (by kernel_rfl) (by kernel_rfl) (fun _ _ _ h => h) (Or.inl ⟨rfl, ?_⟩) (by assumption) ?_; rotate_left; (intro X hSw; (try dsimp only at hSw); (go_simp <;> with_reducible rfl)))
            | (refine held_take (i := 3) (v := undef) rfl (by kernel_rfl) (by kernel_rfl) (by kernel_rfl) (fun _ _ _ h => h) (Or.inr ⟨rfl, rfl⟩) (by assumption) ?_)); simp only [Act.put, List.setIfInBounds_toArray, List.set_cons_zero, List.set_cons_succ]
          (first
            | (refine held_take (i := 5) (v := ?_) rfl (by kernel_rfl) (by kernel_rfl) (by kernel_rfl) (fun _ _ _ h => h) (Or.inl ⟨rfl, ?_⟩) (by assumption) ?_; rotate_left; (intro X hSw; (try dsimp only at hSw); (go_simp <;> with_reducible rfl)))
            | (refine held_take (i := 5) (v := undef) rfl (by kernel_rfl) (by kernel_rfl) (by kernel_rfl) (fun _ _ _ h => h) (Or.inr ⟨rfl, rfl⟩) (by assumption) ?_)); simp only [Act.put, List.setIfInBounds_toArray, List.set_cons_zero, List.set_cons_succ]
          (first
            | (refine held_take (i := 6) (v := ?_) rfl (by kernel_rfl) (by kernel_rfl) (by kernel_rfl) (fun _ _ _ h => h) (Or.inl ⟨rfl, ?_⟩) (by assumption) ?_; rotate_left; (intro X hSw; (try dsimp only at hSw); (go_simp <;> with_reducible rfl)))
            | (refine held_take (i := 6) (v := undef) rfl (by kernel_rfl) (by kernel_rfl) (by kernel_rfl) (fun _ _ _ h => h) (Or.inr ⟨rfl, rfl⟩) (by assumption) ?_)); simp only [Act.put, List.setIfInBounds_toArray, List.set_cons_zero, List.set_cons_succ]
          (first
            | (refine held_take (i := 8) (v := ?_) rfl (by kernel_rfl) (by kernel_rfl) (by kernel_rfl) (fun _ _ _ h => h) (Or.inl ⟨rfl, ?_⟩) (by assumption) ?_; rotate_left; (intro X hSw; (try dsimp only at hSw); (go_simp <;> with_reducible rfl)))
            | (refine held_take (i := 8) (v := undef) rfl (by kernel_rfl) (by kernel_rfl) (by kernel_rfl) (fun _ _ _ h => h) (Or.inr ⟨rfl, rfl⟩) (by assumption) ?_)); simp only [Act.put, List.setIfInBounds_toArray, List.set_cons_zero, List.set_cons_succ]
          refine wpAnyH_ready (rs := [4, 7, 9]) (by kernel_rfl) (by simp) ?_
          refine AllReadyH.cons rfl (fun K hK => ?_) (AllReadyH.cons rfl (fun K hK => ?_) (AllReadyH.cons rfl (fun K hK => ?_) AllReadyH.nil))
          · have c4 := HD.c4 hL HEK.out
            go_simp
            refine hK.out _ _ ?_ (fun hHeld => ?_)
            · trivial
            clear hK K c4
            replace HD := HD.drew
            generalize w7.drew = x1 at HD ⊢
            refine wpAnyH_ready (rs := [7, 9]) (by kernel_rfl) (by simp) ?_
            refine AllReadyH.cons rfl (fun K hK => ?_) (AllReadyH.cons rfl (fun K hK => ?_) AllReadyH.nil)
            · go_simp
              have ob := (Own.new x1 3 #[.int .i64 0, .int .i64 1, .int .i64 (-1), .int .i64 L.length])
              have hob : g ≠ x1.heap.size := by have := HD.size; have := HD.bv; omega
              replace HD := (HD.alloc (.cells #[.int .i64 0, .int .i64 1, .int .i64 (-1), .int .i64 L.length] 3))
              refine hK.out _ _ ?_ (fun hHeld => ?_)
              · trivial
              clear hK K
              generalize (x1.alloc (.cells #[.int .i64 0, .int .i64 1, .int .i64 (-1), .int .i64 L.length] 3)) = x2 at HD ob ⊢
              generalize x1.heap.size = B1 at ob hob ⊢
              refine wpAnyH_ready (rs := [9]) (by kernel_rfl) (by simp) ?_
              refine AllReadyH.cons rfl (fun K hK => ?_) AllReadyH.nil
              go_simp
              go_wp2_with fail
              refine (pick_any (g + 1) g _ 4 _ HD.rd (by omega) (by omega) (by omega)).mono ?_
              rintro e x3 ⟨z, rfl, hz0, hz1, hrd, hgr⟩
              replace HD := HD.touch hgr hrd
              replace ob := own_touch ob hgr (fun e => hob e.symm)
              go_wp2_with fail
              refine hK.out _ _ ?_ (fun hHeld => ?_)
              · trivial
              clear hK K hrd hgr
              obtain ⟨z, rfl⟩ : ∃ k : Nat, z = (k : Int) := ⟨z.toNat, by omega⟩
              have hz4 : z < 4 := by omega
              have hz5 : (z : Int) < 4 := by omega
              (first
                | (refine held_take (i := 10) (v := ?_) rfl (by kernel_rfl) (by kernel_rfl) (by kernel_rfl) (fun _ _ _ h => h) (Or.inl ⟨rfl, ?_⟩) (by assumption) ?_; rotate_left; (intro X hSw; (try dsimp only at hSw); (go_simp <;> with_reducible rfl)))
                | (refine held_take (i := 10) (v := undef) rfl (by kernel_rfl) (by kernel_rfl) (by kernel_rfl) (fun _ _ _ h => h) (Or.inr ⟨rfl, rfl⟩) (by assumption) ?_)); simp only [Act.put, List.setIfInBounds_toArray, List.set_cons_zero, List.set_cons_succ]
              refine wpAnyH_ready (rs := [11]) (by kernel_rfl) (by simp) ?_
              refine AllReadyH.cons rfl (fun K hK => ?_) AllReadyH.nil
              obtain ⟨x, dx⟩ := four_cell ob hz4
              go_simp
              refine hK.out _ _ ?_ (fun hHeld => ?_)
              · trivial
              clear hK K dx ob
              refine wpAnyH_ready (rs := [12]) (by kernel_rfl) (by simp) ?_
              refine AllReadyH.cons rfl (fun K hK => ?_) AllReadyH.nil
              go_simp
              have on := cell_one_new' x3 x
              replace HD := HD.alloc (.cells #[.int .i64 x] 3)
              refine hK.out _ _ ?_ (fun hHeld => ?_)
              · trivial
              clear hK K
              generalize x3.alloc (.cells #[.int .i64 x] 3) = x5 at HD on ⊢
              generalize x3.heap.size = B2 at on ⊢
              refine wpAnyH_ready (rs := [13]) (by kernel_rfl) (by simp) ?_
              refine AllReadyH.cons rfl (fun K hK => ?_) AllReadyH.nil
              have hown := HD.f.own 2 (by omega)
              rw [HEK.out] at hown
              refine step_own_at x5 rfl _ _ 26 rfl (g + 1) 3 j0 (.int .i64 0) 1 8 Try.underlying26 HJ.out.1 HJ.out.2.1 HJ.out.2.2.1 HJ.out.2.2.2 rfl (by decide) _ _ _ rfl hown ⟨B2, 0, none⟩ 1 1 [.int .i64 x] rfl rfl on (fun u hu => by simp at hu; subst hu; rfl) (by unfold maxLen; omega) (by omega) (by have := HD.size; have := HD.bv; omega) ?_
              intro v' x6 hown' hgrow hblk
              obtain ⟨K7, k7, rfl⟩ := own_form hown'
              obtain ⟨⟨v4, c4⟩, f4, hNS, hB8⟩ := HD.put hL HT.out HEK.out hgrow hown' hblk
              have HNS := Lib.hid (And.intro hNS hB8)
              clear hNS hB8 hown' hgrow hblk hown on HD
              go_simp
              refine hK.out _ _ ?_ (fun hHeld => ?_)
              · trivial
              clear hK K
              (first
                | (refine held_take (i := 14) (v := ?_) rfl (by kernel_rfl) (by kernel_rfl) (by kernel_rfl) (fun _ _ _ h => h) (Or.inl ⟨rfl, ?_⟩) (by assumption) ?_; rotate_left; (intro X hSw; (try dsimp only at hSw); (go_simp <;> with_reducible rfl)))
                | (refine held_take (i := 14) (v := undef) rfl (by kernel_rfl) (by kernel_rfl) (by kernel_rfl) (fun _ _ _ h => h) (Or.inr ⟨rfl, rfl⟩) (by assumption) ?_)); simp only [Act.put, List.setIfInBounds_toArray, List.set_cons_zero, List.set_cons_succ]
              (first
                | (refine held_take (i := 15) (v := ?_) rfl (by kernel_rfl) (by kernel_rfl) (by kernel_rfl) (fun _ _ _ h => h) (Or.inl ⟨rfl, ?_⟩) (by assumption) ?_; rotate_left; (intro X hSw; (try dsimp only at hSw); (go_simp <;> with_reducible rfl)))
                | (refine held_take (i := 15) (v := undef) rfl (by kernel_rfl) (by kernel_rfl) (by kernel_rfl) (fun _ _ _ h => h) (Or.inr ⟨rfl, rfl⟩) (by assumption) ?_)); simp only [Act.put, List.setIfInBounds_toArray, List.set_cons_zero, List.set_cons_succ]
              refine wpAnyH_ready (rs := [16]) (by kernel_rfl) (by simp) ?_
              refine AllReadyH.cons rfl (fun K hK => ?_) AllReadyH.nil
              go_simp
              refine hK.out _ _ ?_ (fun hHeld => ?_)
              · trivial
              clear hK K
              refine wpAnyH_done (by kernel_rfl) ?_ _
              clear c4 f4
              go_wp2
              obtain ⟨⟨ns, e1, e2, e3⟩, hB8⟩ := HNS.out
              exact bodyPost_ret (v := .tuple #[.slice (some ⟨G, 0, none⟩) L.length c3, .string s]) (by simp [results, Try.results34, go_sem]) rfl ⟨ns, some ⟨G, 0, none⟩, c3, s, by rw [e1], by omega, e2, by have := HSZ.out; omega, e3, hB8⟩
            · go_simp
              go_wp2_with fail
              refine (pick_any (g + 1) g _ 4 _ HD.rd (by omega) (by omega) (by omega)).mono ?_
              rintro e x7 ⟨z, rfl, hz0, hz1, hrd, hgr⟩
              replace HD := HD.touch hgr hrd
              go_wp2_with fail
              refine hK.out _ _ ?_ (fun hHeld => ?_)
              · trivial
              clear hK K hrd hgr
              obtain ⟨z, rfl⟩ : ∃ k : Nat, z = (k : Int) := ⟨z.toNat, by omega⟩
              have hz4 : z < 4 := by omega
              have hz5 : (z : Int) < 4 := by omega
              refine wpAnyH_ready (rs := [7]) (by kernel_rfl) (by simp) ?_
              refine AllReadyH.cons rfl (fun K hK => ?_) AllReadyH.nil
              go_simp
              have ob := (Own.new x7 3 #[.int .i64 0, .int .i64 1, .int .i64 (-1), .int .i64 L.length])
              have hob : g ≠ x7.heap.size := by have := HD.size; have := HD.bv; omega
              replace HD := (HD.alloc (.cells #[.int .i64 0, .int .i64 1, .int .i64 (-1), .int .i64 L.length] 3))
              refine hK.out _ _ ?_ (fun hHeld => ?_)
              · trivial
              clear hK K
              generalize (x7.alloc (.cells #[.int .i64 0, .int .i64 1, .int .i64 (-1), .int .i64 L.length] 3)) = x8 at HD ob ⊢
              generalize x7.heap.size = B1 at ob hob ⊢
              (first
                | (refine held_take (i := 10) (v := ?_) rfl (by kernel_rfl) (by kernel_rfl) (by kernel_rfl) (fun _ _ _ h => h) (Or.inl ⟨rfl, ?_⟩) (by assumption) ?_; rotate_left; (intro X hSw; (try dsimp only at hSw); (go_simp <;> with_reducible rfl)))
                | (refine held_take (i := 10) (v := undef) rfl (by kernel_rfl) (by kernel_rfl) (by kernel_rfl) (fun _ _ _ h => h) (Or.inr ⟨rfl, rfl⟩) (by assumption) ?_)); simp only [Act.put, List.setIfInBounds_toArray, List.set_cons_zero, List.set_cons_succ]
              refine wpAnyH_ready (rs := [11]) (by kernel_rfl) (by simp) ?_
              refine AllReadyH.cons rfl (fun K hK => ?_) AllReadyH.nil
              obtain ⟨x, dx⟩ := four_cell ob hz4
              go_simp
              refine hK.out _ _ ?_ (fun hHeld => ?_)
              · trivial
              clear hK K dx ob
              refine wpAnyH_ready (rs := [12]) (by kernel_rfl) (by simp) ?_
              refine AllReadyH.cons rfl (fun K hK => ?_) AllReadyH.nil
              go_simp
              have on := cell_one_new' x8 x
              replace HD := HD.alloc (.cells #[.int .i64 x] 3)
              refine hK.out _ _ ?_ (fun hHeld => ?_)
              · trivial
              clear hK K
              generalize x8.alloc (.cells #[.int .i64 x] 3) = x10 at HD on ⊢
              generalize x8.heap.size = B2 at on ⊢
              refine wpAnyH_ready (rs := [13]) (by kernel_rfl) (by simp) ?_
              refine AllReadyH.cons rfl (fun K hK => ?_) AllReadyH.nil
              have hown := HD.f.own 2 (by omega)
              rw [HEK.out] at hown
              refine step_own_at x10 rfl _ _ 26 rfl (g + 1) 3 j0 (.int .i64 0) 1 8 Try.underlying26 HJ.out.1 HJ.out.2.1 HJ.out.2.2.1 HJ.out.2.2.2 rfl (by decide) _ _ _ rfl hown ⟨B2, 0, none⟩ 1 1 [.int .i64 x] rfl rfl on (fun u hu => by simp at hu; subst hu; rfl) (by unfold maxLen; omega) (by omega) (by have := HD.size; have := HD.bv; omega) ?_
              intro v' x11 hown' hgrow hblk
              obtain ⟨K7, k7, rfl⟩ := own_form hown'
              obtain ⟨⟨v4, c4⟩, f4, hNS, hB8⟩ := HD.put hL HT.out HEK.out hgrow hown' hblk
              have HNS := Lib.hid (And.intro hNS hB8)
              clear hNS hB8 hown' hgrow hblk hown on HD
              go_simp
              refine hK.out _ _ ?_ (fun hHeld => ?_)
              · trivial
              clear hK K
              (first
                | (refine held_take (i := 14) (v := ?_) rfl (by kernel_rfl) (by kernel_rfl) (by kernel_rfl) (fun _ _ _ h => h) (Or.inl ⟨rfl, ?_⟩) (by assumption) ?_; rotate_left; (intro X hSw; (try dsimp only at hSw); (go_simp <;> with_reducible rfl)))
                | (refine held_take (i := 14) (v := undef) rfl (by kernel_rfl) (by kernel_rfl) (by kernel_rfl) (fun _ _ _ h => h) (Or.inr ⟨rfl, rfl⟩) (by assumption) ?_)); simp only [Act.put, List.setIfInBounds_toArray, List.set_cons_zero, List.set_cons_succ]
              (first
                | (refine held_take (i := 15) (v := ?_) rfl (by kernel_rfl) (by kernel_rfl) (by kernel_rfl) (fun _ _ _ h => h) (Or.inl ⟨rfl, ?_⟩) (by assumption) ?_; rotate_left; (intro X hSw; (try dsimp only at hSw); (go_simp <;> with_reducible rfl)))
                | (refine held_take (i := 15) (v := undef) rfl (by kernel_rfl) (by kernel_rfl) (by kernel_rfl) (fun _ _ _ h => h) (Or.inr ⟨rfl, rfl⟩) (by assumption) ?_)); simp only [Act.put, List.setIfInBounds_toArray, List.set_cons_zero, List.set_cons_succ]
              refine wpAnyH_ready (rs := [16]) (by kernel_rfl) (by simp) ?_
              refine AllReadyH.cons rfl (fun K hK => ?_) AllReadyH.nil
              go_simp
              refine hK.out _ _ ?_ (fun hHeld => ?_)
              · trivial
              clear hK K
              refine wpAnyH_done (by kernel_rfl) ?_ _
              clear c4 f4
              go_wp2
              obtain ⟨⟨ns, e1, e2, e3⟩, hB8⟩ := HNS.out
              exact bodyPost_ret (v := .tuple #[.slice (some ⟨G, 0, none⟩) L.length c3, .string s]) (by simp [results, Try.results34, go_sem]) rfl ⟨ns, some ⟨G, 0, none⟩, c3, s, by rw [e1], by omega, e2, by have := HSZ.out; omega, e3, hB8⟩
          · go_simp
            have ob := (Own.new w7 3 #[.int .i64 0, .int .i64 1, .int .i64 (-1), .int .i64 L.length]).drew
            have hob : g ≠ w7.heap.size := by have := HD.size; have := HD.bv; omega
            replace HD := (HD.alloc (.cells #[.int .i64 0, .int .i64 1, .int .i64 (-1), .int .i64 L.length] 3)).drew
            refine hK.out _ _ ?_ (fun hHeld => ?_)
            · trivial
            clear hK K
            generalize (w7.alloc (.cells #[.int .i64 0, .int .i64 1, .int .i64 (-1), .int .i64 L.length] 3)).drew = x12 at HD ob ⊢
            generalize w7.heap.size = B1 at ob hob ⊢
            refine wpAnyH_ready (rs := [4, 9]) (by kernel_rfl) (by simp) ?_
            refine AllReadyH.cons rfl (fun K hK => ?_) (AllReadyH.cons rfl (fun K hK => ?_) AllReadyH.nil)
            · have c4 := HD.c4 hL HEK.out
              go_simp
              refine hK.out _ _ ?_ (fun hHeld => ?_)
              · trivial
              clear hK K c4
              refine wpAnyH_ready (rs := [9]) (by kernel_rfl) (by simp) ?_
              refine AllReadyH.cons rfl (fun K hK => ?_) AllReadyH.nil
              go_simp
              go_wp2_with fail
              refine (pick_any (g + 1) g _ 4 _ HD.rd (by omega) (by omega) (by omega)).mono ?_
              rintro e x14 ⟨z, rfl, hz0, hz1, hrd, hgr⟩
              replace HD := HD.touch hgr hrd
              replace ob := own_touch ob hgr (fun e => hob e.symm)
              go_wp2_with fail
              refine hK.out _ _ ?_ (fun hHeld => ?_)
              · trivial
              clear hK K hrd hgr
              obtain ⟨z, rfl⟩ : ∃ k : Nat, z = (k : Int) := ⟨z.toNat, by omega⟩
              have hz4 : z < 4 := by omega
              have hz5 : (z : Int) < 4 := by omega
              (first
                | (refine held_take (i := 10) (v := ?_) rfl (by kernel_rfl) (by kernel_rfl) (by kernel_rfl) (fun _ _ _ h => h) (Or.inl ⟨rfl, ?_⟩) (by assumption) ?_; rotate_left; (intro X hSw; (try dsimp only at hSw); (go_simp <;> with_reducible rfl)))
                | (refine held_take (i := 10) (v := undef) rfl (by kernel_rfl) (by kernel_rfl) (by kernel_rfl) (fun _ _ _ h => h) (Or.inr ⟨rfl, rfl⟩) (by assumption) ?_)); simp only [Act.put, List.setIfInBounds_toArray, List.set_cons_zero, List.set_cons_succ]
              refine wpAnyH_ready (rs := [11]) (by kernel_rfl) (by simp) ?_
              refine AllReadyH.cons rfl (fun K hK => ?_) AllReadyH.nil
              obtain ⟨x, dx⟩ := four_cell ob hz4
              go_simp
              refine hK.out _ _ ?_ (fun hHeld => ?_)
              · trivial
              clear hK K dx ob
              refine wpAnyH_ready (rs := [12]) (by kernel_rfl) (by simp) ?_
              refine AllReadyH.cons rfl (fun K hK => ?_) AllReadyH.nil
              go_simp
              have on := cell_one_new' x14 x
              replace HD := HD.alloc (.cells #[.int .i64 x] 3)
              refine hK.out _ _ ?_ (fun hHeld => ?_)
              · trivial
              clear hK K
              generalize x14.alloc (.cells #[.int .i64 x] 3) = x16 at HD on ⊢
              generalize x14.heap.size = B2 at on ⊢
              refine wpAnyH_ready (rs := [13]) (by kernel_rfl) (by simp) ?_
              refine AllReadyH.cons rfl (fun K hK => ?_) AllReadyH.nil
              have hown := HD.f.own 2 (by omega)
              rw [HEK.out] at hown
              refine step_own_at x16 rfl _ _ 26 rfl (g + 1) 3 j0 (.int .i64 0) 1 8 Try.underlying26 HJ.out.1 HJ.out.2.1 HJ.out.2.2.1 HJ.out.2.2.2 rfl (by decide) _ _ _ rfl hown ⟨B2, 0, none⟩ 1 1 [.int .i64 x] rfl rfl on (fun u hu => by simp at hu; subst hu; rfl) (by unfold maxLen; omega) (by omega) (by have := HD.size; have := HD.bv; omega) ?_
              intro v' x17 hown' hgrow hblk
              obtain ⟨K7, k7, rfl⟩ := own_form hown'
              obtain ⟨⟨v4, c4⟩, f4, hNS, hB8⟩ := HD.put hL HT.out HEK.out hgrow hown' hblk
              have HNS := Lib.hid (And.intro hNS hB8)
              clear hNS hB8 hown' hgrow hblk hown on HD
              go_simp
              refine hK.out _ _ ?_ (fun hHeld => ?_)
              · trivial
              clear hK K
              (first
                | (refine held_take (i := 14) (v := ?_) rfl (by kernel_rfl) (by kernel_rfl) (by kernel_rfl) (fun _ _ _ h => h) (Or.inl ⟨rfl, ?_⟩) (by assumption) ?_; rotate_left; (intro X hSw; (try dsimp only at hSw); (go_simp <;> with_reducible rfl)))
                | (refine held_take (i := 14) (v := undef) rfl (by kernel_rfl) (by kernel_rfl) (by kernel_rfl) (fun _ _ _ h => h) (Or.inr ⟨rfl, rfl⟩) (by assumption) ?_)); simp only [Act.put, List.setIfInBounds_toArray, List.set_cons_zero, List.set_cons_succ]
              (first
                | (refine held_take (i := 15) (v := ?_) rfl (by kernel_rfl) (by kernel_rfl) (by kernel_rfl) (fun _ _ _ h => h) (Or.inl ⟨rfl, ?_⟩) (by assumption) ?_; rotate_left; (intro X hSw; (try dsimp only at hSw); (go_simp <;> with_reducible rfl)))
                | (refine held_take (i := 15) (v := undef) rfl (by kernel_rfl) (by kernel_rfl) (by kernel_rfl) (fun _ _ _ h => h) (Or.inr ⟨rfl, rfl⟩) (by assumption) ?_)); simp only [Act.put, List.setIfInBounds_toArray, List.set_cons_zero, List.set_cons_succ]
              refine wpAnyH_ready (rs := [16]) (by kernel_rfl) (by simp) ?_
              refine AllReadyH.cons rfl (fun K hK => ?_) AllReadyH.nil
              go_simp
              refine hK.out _ _ ?_ (fun hHeld => ?_)
              · trivial
              clear hK K
              refine wpAnyH_done (by kernel_rfl) ?_ _
              clear c4 f4
              go_wp2
              obtain ⟨⟨ns, e1, e2, e3⟩, hB8⟩ := HNS.out
              exact bodyPost_ret (v := .tuple #[.slice (some ⟨G, 0, none⟩) L.length c3, .string s]) (by simp [results, Try.results34, go_sem]) rfl ⟨ns, some ⟨G, 0, none⟩, c3, s, by rw [e1], by omega, e2, by have := HSZ.out; omega, e3, hB8⟩
            · go_simp
              go_wp2_with fail
              refine (pick_any (g + 1) g _ 4 _ HD.rd (by omega) (by omega) (by omega)).mono ?_
              rintro e x18 ⟨z, rfl, hz0, hz1, hrd, hgr⟩
              replace HD := HD.touch hgr hrd
              replace ob := own_touch ob hgr (fun e => hob e.symm)
              go_wp2_with fail
              refine hK.out _ _ ?_ (fun hHeld => ?_)
              · trivial
              clear hK K hrd hgr
              obtain ⟨z, rfl⟩ : ∃ k : Nat, z = (k : Int) := ⟨z.toNat, by omega⟩
              have hz4 : z < 4 := by omega
              have hz5 : (z : Int) < 4 := by omega
              (first
                | (refine held_take (i := 10) (v := ?_) rfl (by kernel_rfl) (by kernel_rfl) (by kernel_rfl) (fun _ _ _ h => h) (Or.inl ⟨rfl, ?_⟩) (by assumption) ?_; rotate_left; (intro X hSw; (try dsimp only at hSw); (go_simp <;> with_reducible rfl)))
                | (refine held_take (i := 10) (v := undef) rfl (by kernel_rfl) (by kernel_rfl) (by kernel_rfl) (fun _ _ _ h => h) (Or.inr ⟨rfl, rfl⟩) (by assumption) ?_)); simp only [Act.put, List.setIfInBounds_toArray, List.set_cons_zero, List.set_cons_succ]
              refine wpAnyH_ready (rs := [4, 11]) (by kernel_rfl) (by simp) ?_
              refine AllReadyH.cons rfl (fun K hK => ?_) (AllReadyH.cons rfl (fun K hK => ?_) AllReadyH.nil)
              · have c4 := HD.c4 hL HEK.out
                go_simp
                refine hK.out _ _ ?_ (fun hHeld => ?_)
                · trivial
                clear hK K c4
                refine wpAnyH_ready (rs := [11]) (by kernel_rfl) (by simp) ?_
                refine AllReadyH.cons rfl (fun K hK => ?_) AllReadyH.nil
                obtain ⟨x, dx⟩ := four_cell ob hz4
                go_simp
                refine hK.out _ _ ?_ (fun hHeld => ?_)
                · trivial
                clear hK K dx ob
                refine wpAnyH_ready (rs := [12]) (by kernel_rfl) (by simp) ?_
                refine AllReadyH.cons rfl (fun K hK => ?_) AllReadyH.nil
                go_simp
                have on := cell_one_new' x18 x
                replace HD := HD.alloc (.cells #[.int .i64 x] 3)
                refine hK.out _ _ ?_ (fun hHeld => ?_)
                · trivial
                clear hK K
                generalize x18.alloc (.cells #[.int .i64 x] 3) = x21 at HD on ⊢
                generalize x18.heap.size = B2 at on ⊢
                refine wpAnyH_ready (rs := [13]) (by kernel_rfl) (by simp) ?_
                refine AllReadyH.cons rfl (fun K hK => ?_) AllReadyH.nil
                have hown := HD.f.own 2 (by omega)
                rw [HEK.out] at hown
                refine step_own_at x21 rfl _ _ 26 rfl (g + 1) 3 j0 (.int .i64 0) 1 8 Try.underlying26 HJ.out.1 HJ.out.2.1 HJ.out.2.2.1 HJ.out.2.2.2 rfl (by decide) _ _ _ rfl hown ⟨B2, 0, none⟩ 1 1 [.int .i64 x] rfl rfl on (fun u hu => by simp at hu; subst hu; rfl) (by unfold maxLen; omega) (by omega) (by have := HD.size; have := HD.bv; omega) ?_
                intro v' x22 hown' hgrow hblk
                obtain ⟨K7, k7, rfl⟩ := own_form hown'
                obtain ⟨⟨v4, c4⟩, f4, hNS, hB8⟩ := HD.put hL HT.out HEK.out hgrow hown' hblk
                have HNS := Lib.hid (And.intro hNS hB8)
                clear hNS hB8 hown' hgrow hblk hown on HD
                go_simp
                refine hK.out _ _ ?_ (fun hHeld => ?_)
                · trivial
                clear hK K
                (first
                  | (refine held_take (i := 14) (v := ?_) rfl (by kernel_rfl) (by kernel_rfl) (by kernel_rfl) (fun _ _ _ h => h) (Or.inl ⟨rfl, ?_⟩) (by assumption) ?_; rotate_left; (intro X hSw; (try dsimp only at hSw); (go_simp <;> with_reducible rfl)))
                  | (refine held_take (i := 14) (v := undef) rfl (by kernel_rfl) (by kernel_rfl) (by kernel_rfl) (fun _ _ _ h => h) (Or.inr ⟨rfl, rfl⟩) (by assumption) ?_)); simp only [Act.put, List.setIfInBounds_toArray, List.set_cons_zero, List.set_cons_succ]
                (first
                  | (refine held_take (i := 15) (v := ?_) rfl (by kernel_rfl) (by kernel_rfl) (by kernel_rfl) (fun _ _ _ h => h) (Or.inl ⟨rfl, ?_⟩) (by assumption) ?_; rotate_left; (intro X hSw; (try dsimp only at hSw); (go_simp <;> with_reducible rfl)))
                  | (refine held_take (i := 15) (v := undef) rfl (by kernel_rfl) (by kernel_rfl) (by kernel_rfl) (fun _ _ _ h => h) (Or.inr ⟨rfl, rfl⟩) (by assumption) ?_)); simp only [Act.put, List.setIfInBounds_toArray, List.set_cons_zero, List.set_cons_succ]
                refine wpAnyH_ready (rs := [16]) (by kernel_rfl) (by simp) ?_
                refine AllReadyH.cons rfl (fun K hK => ?_) AllReadyH.nil
                go_simp
                refine hK.out _ _ ?_ (fun hHeld => ?_)
                · trivial
                clear hK K
                refine wpAnyH_done (by kernel_rfl) ?_ _
                clear c4 f4
                go_wp2
                obtain ⟨⟨ns, e1, e2, e3⟩, hB8⟩ := HNS.out
                exact bodyPost_ret (v := .tuple #[.slice (some ⟨G, 0, none⟩) L.length c3, .string s]) (by simp [results, Try.results34, go_sem]) rfl ⟨ns, some ⟨G, 0, none⟩, c3, s, by rw [e1], by omega, e2, by have := HSZ.out; omega, e3, hB8⟩
              · obtain ⟨x, dx⟩ := four_cell ob hz4
                go_simp
                refine hK.out _ _ ?_ (fun hHeld => ?_)
                · trivial
                clear hK K dx ob
                refine wpAnyH_ready (rs := [4, 12]) (by kernel_rfl) (by simp) ?_
                refine AllReadyH.cons rfl (fun K hK => ?_) (AllReadyH.cons rfl (fun K hK => ?_) AllReadyH.nil)
                · have c4 := HD.c4 hL HEK.out
                  go_simp
                  refine hK.out _ _ ?_ (fun hHeld => ?_)
                  · trivial
                  clear hK K c4
                  refine wpAnyH_ready (rs := [12]) (by kernel_rfl) (by simp) ?_
                  refine AllReadyH.cons rfl (fun K hK => ?_) AllReadyH.nil
                  go_simp
                  have on := cell_one_new' x18 x
                  replace HD := HD.alloc (.cells #[.int .i64 x] 3)
                  refine hK.out _ _ ?_ (fun hHeld => ?_)
                  · trivial
                  clear hK K
                  generalize x18.alloc (.cells #[.int .i64 x] 3) = x25 at HD on ⊢
                  generalize x18.heap.size = B2 at on ⊢
                  refine wpAnyH_ready (rs := [13]) (by kernel_rfl) (by simp) ?_
                  refine AllReadyH.cons rfl (fun K hK => ?_) AllReadyH.nil
                  have hown := HD.f.own 2 (by omega)
                  rw [HEK.out] at hown
                  refine step_own_at x25 rfl _ _ 26 rfl (g + 1) 3 j0 (.int .i64 0) 1 8 Try.underlying26 HJ.out.1 HJ.out.2.1 HJ.out.2.2.1 HJ.out.2.2.2 rfl (by decide) _ _ _ rfl hown ⟨B2, 0, none⟩ 1 1 [.int .i64 x] rfl rfl on (fun u hu => by simp at hu; subst hu; rfl) (by unfold maxLen; omega) (by omega) (by have := HD.size; have := HD.bv; omega) ?_
                  intro v' x26 hown' hgrow hblk
                  obtain ⟨K7, k7, rfl⟩ := own_form hown'
                  obtain ⟨⟨v4, c4⟩, f4, hNS, hB8⟩ := HD.put hL HT.out HEK.out hgrow hown' hblk
                  have HNS := Lib.hid (And.intro hNS hB8)
                  clear hNS hB8 hown' hgrow hblk hown on HD
                  go_simp
                  refine hK.out _ _ ?_ (fun hHeld => ?_)
                  · trivial
                  clear hK K
                  (first
                    | (refine held_take (i := 14) (v := ?_) rfl (by kernel_rfl) (by kernel_rfl) (by kernel_rfl) (fun _ _ _ h => h) (Or.inl ⟨rfl, ?_⟩) (by assumption) ?_; rotate_left; (intro X hSw; (try dsimp only at hSw); (go_simp <;> with_reducible rfl)))
                    | (refine held_take (i := 14) (v := undef) rfl (by kernel_rfl) (by kernel_rfl) (by kernel_rfl) (fun _ _ _ h => h) (Or.inr ⟨rfl, rfl⟩) (by assumption) ?_)); simp only [Act.put, List.setIfInBounds_toArray, List.set_cons_zero, List.set_cons_succ]
                  (first
                    | (refine held_take (i := 15) (v := ?_) rfl (by kernel_rfl) (by kernel_rfl) (by kernel_rfl) (fun _ _ _ h => h) (Or.inl ⟨rfl, ?_⟩) (by assumption) ?_; rotate_left; (intro X hSw; (try dsimp only at hSw); (go_simp <;> with_reducible rfl)))
                    | (refine held_take (i := 15) (v := undef) rfl (by kernel_rfl) (by kernel_rfl) (by kernel_rfl) (fun _ _ _ h => h) (Or.inr ⟨rfl, rfl⟩) (by assumption) ?_)); simp only [Act.put, List.setIfInBounds_toArray, List.set_cons_zero, List.set_cons_succ]
                  refine wpAnyH_ready (rs := [16]) (by kernel_rfl) (by simp) ?_
                  refine AllReadyH.cons rfl (fun K hK => ?_) AllReadyH.nil
                  go_simp
                  refine hK.out _ _ ?_ (fun hHeld => ?_)
                  · trivial
                  clear hK K
                  refine wpAnyH_done (by kernel_rfl) ?_ _
                  clear c4 f4
                  go_wp2
                  obtain ⟨⟨ns, e1, e2, e3⟩, hB8⟩ := HNS.out
                  exact bodyPost_ret (v := .tuple #[.slice (some ⟨G, 0, none⟩) L.length c3, .string s]) (by simp [results, Try.results34, go_sem]) rfl ⟨ns, some ⟨G, 0, none⟩, c3, s, by rw [e1], by omega, e2, by have := HSZ.out; omega, e3, hB8⟩
                · go_simp
                  have on := cell_one_new' x18 x
                  replace HD := HD.alloc (.cells #[.int .i64 x] 3)
                  refine hK.out _ _ ?_ (fun hHeld => ?_)
                  · trivial
                  clear hK K
                  generalize x18.alloc (.cells #[.int .i64 x] 3) = x27 at HD on ⊢
                  generalize x18.heap.size = B2 at on ⊢
                  refine wpAnyH_ready (rs := [4]) (by kernel_rfl) (by simp) ?_
                  refine AllReadyH.cons rfl (fun K hK => ?_) AllReadyH.nil
                  have c4 := HD.c4 hL HEK.out
                  go_simp
                  refine hK.out _ _ ?_ (fun hHeld => ?_)
                  · trivial
                  clear hK K c4
                  refine wpAnyH_ready (rs := [13]) (by kernel_rfl) (by simp) ?_
                  refine AllReadyH.cons rfl (fun K hK => ?_) AllReadyH.nil
                  have hown := HD.f.own 2 (by omega)
                  rw [HEK.out] at hown
                  refine step_own_at x27 rfl _ _ 26 rfl (g + 1) 3 j0 (.int .i64 0) 1 8 Try.underlying26 HJ.out.1 HJ.out.2.1 HJ.out.2.2.1 HJ.out.2.2.2 rfl (by decide) _ _ _ rfl hown ⟨B2, 0, none⟩ 1 1 [.int .i64 x] rfl rfl on (fun u hu => by simp at hu; subst hu; rfl) (by unfold maxLen; omega) (by omega) (by have := HD.size; have := HD.bv; omega) ?_
                  intro v' x29 hown' hgrow hblk
                  obtain ⟨K7, k7, rfl⟩ := own_form hown'
                  obtain ⟨⟨v4, c4⟩, f4, hNS, hB8⟩ := HD.put hL HT.out HEK.out hgrow hown' hblk
                  have HNS := Lib.hid (And.intro hNS hB8)
                  clear hNS hB8 hown' hgrow hblk hown on HD
                  go_simp
                  refine hK.out _ _ ?_ (fun hHeld => ?_)
                  · trivial
                  clear hK K
                  (first
                    | (refine held_take (i := 14) (v := ?_) rfl (by kernel_rfl) (by kernel_rfl) (by kernel_rfl) (fun _ _ _ h => h) (Or.inl ⟨rfl, ?_⟩) (by assumption) ?_; rotate_left; (intro X hSw; (try dsimp only at hSw); (go_simp <;> with_reducible rfl)))
                    | (refine held_take (i := 14) (v := undef) rfl (by kernel_rfl) (by kernel_rfl) (by kernel_rfl) (fun _ _ _ h => h) (Or.inr ⟨rfl, rfl⟩) (by assumption) ?_)); simp only [Act.put, List.setIfInBounds_toArray, List.set_cons_zero, List.set_cons_succ]
                  (first
                    | (refine held_take (i := 15) (v := ?_) rfl (by kernel_rfl) (by kernel_rfl) (by kernel_rfl) (fun _ _ _ h => h) (Or.inl ⟨rfl, ?_⟩) (by assumption) ?_; rotate_left; (intro X hSw; (try dsimp only at hSw); (go_simp <;> with_reducible rfl)))
                    | (refine held_take (i := 15) (v := undef) rfl (by kernel_rfl) (by kernel_rfl) (by kernel_rfl) (fun _ _ _ h => h) (Or.inr ⟨rfl, rfl⟩) (by assumption) ?_)); simp only [Act.put, List.setIfInBounds_toArray, List.set_cons_zero, List.set_cons_succ]
                  refine wpAnyH_ready (rs := [16]) (by kernel_rfl) (by simp) ?_
                  refine AllReadyH.cons rfl (fun K hK => ?_) AllReadyH.nil
                  go_simp
                  refine hK.out _ _ ?_ (fun hHeld => ?_)
                  · trivial
                  clear hK K
                  refine wpAnyH_done (by kernel_rfl) ?_ _
                  clear c4 f4
                  go_wp2
                  obtain ⟨⟨ns, e1, e2, e3⟩, hB8⟩ := HNS.out
                  exact bodyPost_ret (v := .tuple #[.slice (some ⟨G, 0, none⟩) L.length c3, .string s]) (by simp [results, Try.results34, go_sem]) rfl ⟨ns, some ⟨G, 0, none⟩, c3, s, by rw [e1], by omega, e2, by have := HSZ.out; omega, e3, hB8⟩
          · go_simp
            go_wp2_with fail
            refine (pick_any (g + 1) g _ 4 _ HD.drew.rd (by omega) (by omega) (by omega)).mono ?_
            rintro e x30 ⟨z, rfl, hz0, hz1, hrd, hgr⟩
            replace HD := HD.drew.touch hgr hrd
            go_wp2_with fail
            refine hK.out _ _ ?_ (fun hHeld => ?_)
            · trivial
            clear hK K hrd hgr
            obtain ⟨z, rfl⟩ : ∃ k : Nat, z = (k : Int) := ⟨z.toNat, by omega⟩
            have hz4 : z < 4 := by omega
            have hz5 : (z : Int) < 4 := by omega
            refine wpAnyH_ready (rs := [4, 7]) (by kernel_rfl) (by simp) ?_
            refine AllReadyH.cons rfl (fun K hK => ?_) (AllReadyH.cons rfl (fun K hK => ?_) AllReadyH.nil)
            · have c4 := HD.c4 hL HEK.out
              go_simp
              refine hK.out _ _ ?_ (fun hHeld => ?_)
              · trivial
              clear hK K c4
              refine wpAnyH_ready (rs := [7]) (by kernel_rfl) (by simp) ?_
              refine AllReadyH.cons rfl (fun K hK => ?_) AllReadyH.nil
              go_simp
              have ob := (Own.new x30 3 #[.int .i64 0, .int .i64 1, .int .i64 (-1), .int .i64 L.length])
              have hob : g ≠ x30.heap.size := by have := HD.size; have := HD.bv; omega
              replace HD := (HD.alloc (.cells #[.int .i64 0, .int .i64 1, .int .i64 (-1), .int .i64 L.length] 3))
              refine hK.out _ _ ?_ (fun hHeld => ?_)
              · trivial
              clear hK K
              generalize (x30.alloc (.cells #[.int .i64 0, .int .i64 1, .int .i64 (-1), .int .i64 L.length] 3)) = x32 at HD ob ⊢
              generalize x30.heap.size = B1 at ob hob ⊢
              (first
                | (refine held_take (i := 10) (v := ?_) rfl (by kernel_rfl) (by kernel_rfl) (by kernel_rfl) (fun _ _ _ h => h) (Or.inl ⟨rfl, ?_⟩) (by assumption) ?_; rotate_left; (intro X hSw; (try dsimp only at hSw); (go_simp <;> with_reducible rfl)))
                | (refine held_take (i := 10) (v := undef) rfl (by kernel_rfl) (by kernel_rfl) (by kernel_rfl) (fun _ _ _ h => h) (Or.inr ⟨rfl, rfl⟩) (by assumption) ?_)); simp only [Act.put, List.setIfInBounds_toArray, List.set_cons_zero, List.set_cons_succ]
              refine wpAnyH_ready (rs := [11]) (by kernel_rfl) (by simp) ?_
              refine AllReadyH.cons rfl (fun K hK => ?_) AllReadyH.nil
              obtain ⟨x, dx⟩ := four_cell ob hz4
              go_simp
              refine hK.out _ _ ?_ (fun hHeld => ?_)
              · trivial
              clear hK K dx ob
              refine wpAnyH_ready (rs := [12]) (by kernel_rfl) (by simp) ?_
              refine AllReadyH.cons rfl (fun K hK => ?_) AllReadyH.nil
              go_simp
              have on := cell_one_new' x32 x
              replace HD := HD.alloc (.cells #[.int .i64 x] 3)
              refine hK.out _ _ ?_ (fun hHeld => ?_)
              · trivial
              clear hK K
              generalize x32.alloc (.cells #[.int .i64 x] 3) = x34 at HD on ⊢
              generalize x32.heap.size = B2 at on ⊢
              refine wpAnyH_ready (rs := [13]) (by kernel_rfl) (by simp) ?_
              refine AllReadyH.cons rfl (fun K hK => ?_) AllReadyH.nil
              have hown := HD.f.own 2 (by omega)
              rw [HEK.out] at hown
              refine step_own_at x34 rfl _ _ 26 rfl (g + 1) 3 j0 (.int .i64 0) 1 8 Try.underlying26 HJ.out.1 HJ.out.2.1 HJ.out.2.2.1 HJ.out.2.2.2 rfl (by decide) _ _ _ rfl hown ⟨B2, 0, none⟩ 1 1 [.int .i64 x] rfl rfl on (fun u hu => by simp at hu; subst hu; rfl) (by unfold maxLen; omega) (by omega) (by have := HD.size; have := HD.bv; omega) ?_
              intro v' x35 hown' hgrow hblk
              obtain ⟨K7, k7, rfl⟩ := own_form hown'
              obtain ⟨⟨v4, c4⟩, f4, hNS, hB8⟩ := HD.put hL HT.out HEK.out hgrow hown' hblk
              have HNS := Lib.hid (And.intro hNS hB8)
              clear hNS hB8 hown' hgrow hblk hown on HD
              go_simp
              refine hK.out _ _ ?_ (fun hHeld => ?_)
              · trivial
              clear hK K
              (first
                | (refine held_take (i := 14) (v := ?_) rfl (by kernel_rfl) (by kernel_rfl) (by kernel_rfl) (fun _ _ _ h => h) (Or.inl ⟨rfl, ?_⟩) (by assumption) ?_; rotate_left; (intro X hSw; (try dsimp only at hSw); (go_simp <;> with_reducible rfl)))
                | (refine held_take (i := 14) (v := undef) rfl (by kernel_rfl) (by kernel_rfl) (by kernel_rfl) (fun _ _ _ h => h) (Or.inr ⟨rfl, rfl⟩) (by assumption) ?_)); simp only [Act.put, List.setIfInBounds_toArray, List.set_cons_zero, List.set_cons_succ]
              (first
                | (refine held_take (i := 15) (v := ?_) rfl (by kernel_rfl) (by kernel_rfl) (by kernel_rfl) (fun _ _ _ h => h) (Or.inl ⟨rfl, ?_⟩) (by assumption) ?_; rotate_left; (intro X hSw; (try dsimp only at hSw); (go_simp <;> with_reducible rfl)))
                | (refine held_take (i := 15) (v := undef) rfl (by kernel_rfl) (by kernel_rfl) (by kernel_rfl) (fun _ _ _ h => h) (Or.inr ⟨rfl, rfl⟩) (by assumption) ?_)); simp only [Act.put, List.setIfInBounds_toArray, List.set_cons_zero, List.set_cons_succ]
              refine wpAnyH_ready (rs := [16]) (by kernel_rfl) (by simp) ?_
              refine AllReadyH.cons rfl (fun K hK => ?_) AllReadyH.nil
              go_simp
              refine hK.out _ _ ?_ (fun hHeld => ?_)
              · trivial
              clear hK K
              refine wpAnyH_done (by kernel_rfl) ?_ _
              clear c4 f4
              go_wp2
              obtain ⟨⟨ns, e1, e2, e3⟩, hB8⟩ := HNS.out
              exact bodyPost_ret (v := .tuple #[.slice (some ⟨G, 0, none⟩) L.length c3, .string s]) (by simp [results, Try.results34, go_sem]) rfl ⟨ns, some ⟨G, 0, none⟩, c3, s, by rw [e1], by omega, e2, by have := HSZ.out; omega, e3, hB8⟩
            · go_simp
              have ob := (Own.new x30 3 #[.int .i64 0, .int .i64 1, .int .i64 (-1), .int .i64 L.length])
              have hob : g ≠ x30.heap.size := by have := HD.size; have := HD.bv; omega
              replace HD := (HD.alloc (.cells #[.int .i64 0, .int .i64 1, .int .i64 (-1), .int .i64 L.length] 3))
              refine hK.out _ _ ?_ (fun hHeld => ?_)
              · trivial
              clear hK K
              generalize (x30.alloc (.cells #[.int .i64 0, .int .i64 1, .int .i64 (-1), .int .i64 L.length] 3)) = x36 at HD ob ⊢
              generalize x30.heap.size = B1 at ob hob ⊢
              (first
                | (refine held_take (i := 10) (v := ?_) rfl (by kernel_rfl) (by kernel_rfl) (by kernel_rfl) (fun _ _ _ h => h) (Or.inl ⟨rfl, ?_⟩) (by assumption) ?_; rotate_left; (intro X hSw; (try dsimp only at hSw); (go_simp <;> with_reducible rfl)))
                | (refine held_take (i := 10) (v := undef) rfl (by kernel_rfl) (by kernel_rfl) (by kernel_rfl) (fun _ _ _ h => h) (Or.inr ⟨rfl, rfl⟩) (by assumption) ?_)); simp only [Act.put, List.setIfInBounds_toArray, List.set_cons_zero, List.set_cons_succ]
              refine wpAnyH_ready (rs := [4, 11]) (by kernel_rfl) (by simp) ?_
              refine AllReadyH.cons rfl (fun K hK => ?_) (AllReadyH.cons rfl (fun K hK => ?_) AllReadyH.nil)
              · have c4 := HD.c4 hL HEK.out
                go_simp
                refine hK.out _ _ ?_ (fun hHeld => ?_)
                · trivial
                clear hK K c4
                refine wpAnyH_ready (rs := [11]) (by kernel_rfl) (by simp) ?_
                refine AllReadyH.cons rfl (fun K hK => ?_) AllReadyH.nil
                obtain ⟨x, dx⟩ := four_cell ob hz4
                go_simp
                refine hK.out _ _ ?_ (fun hHeld => ?_)
                · trivial
                clear hK K dx ob
                refine wpAnyH_ready (rs := [12]) (by kernel_rfl) (by simp) ?_
                refine AllReadyH.cons rfl (fun K hK => ?_) AllReadyH.nil
                go_simp
                have on := cell_one_new' x36 x
                replace HD := HD.alloc (.cells #[.int .i64 x] 3)
                refine hK.out _ _ ?_ (fun hHeld => ?_)
                · trivial
                clear hK K
                generalize x36.alloc (.cells #[.int .i64 x] 3) = x39 at HD on ⊢
                generalize x36.heap.size = B2 at on ⊢
                refine wpAnyH_ready (rs := [13]) (by kernel_rfl) (by simp) ?_
                refine AllReadyH.cons rfl (fun K hK => ?_) AllReadyH.nil
                have hown := HD.f.own 2 (by omega)
                rw [HEK.out] at hown
                refine step_own_at x39 rfl _ _ 26 rfl (g + 1) 3 j0 (.int .i64 0) 1 8 Try.underlying26 HJ.out.1 HJ.out.2.1 HJ.out.2.2.1 HJ.out.2.2.2 rfl (by decide) _ _ _ rfl hown ⟨B2, 0, none⟩ 1 1 [.int .i64 x] rfl rfl on (fun u hu => by simp at hu; subst hu; rfl) (by unfold maxLen; omega) (by omega) (by have := HD.size; have := HD.bv; omega) ?_
                intro v' x40 hown' hgrow hblk
                obtain ⟨K7, k7, rfl⟩ := own_form hown'
                obtain ⟨⟨v4, c4⟩, f4, hNS, hB8⟩ := HD.put hL HT.out HEK.out hgrow hown' hblk
                have HNS := Lib.hid (And.intro hNS hB8)
                clear hNS hB8 hown' hgrow hblk hown on HD
                go_simp
                refine hK.out _ _ ?_ (fun hHeld => ?_)
                · trivial
                clear hK K
                (first
                  | (refine held_take (i := 14) (v := ?_) rfl (by kernel_rfl) (by kernel_rfl) (by kernel_rfl) (fun _ _ _ h => h) (Or.inl ⟨rfl, ?_⟩) (by assumption) ?_; rotate_left; (intro X hSw; (try dsimp only at hSw); (go_simp <;> with_reducible rfl)))
                  | (refine held_take (i := 14) (v := undef) rfl (by kernel_rfl) (by kernel_rfl) (by kernel_rfl) (fun _ _ _ h => h) (Or.inr ⟨rfl, rfl⟩) (by assumption) ?_)); simp only [Act.put, List.setIfInBounds_toArray, List.set_cons_zero, List.set_cons_succ]
                (first
                  | (refine held_take (i := 15) (v := ?_) rfl (by kernel_rfl) (by kernel_rfl) (by kernel_rfl) (fun _ _ _ h => h) (Or.inl ⟨rfl, ?_⟩) (by assumption) ?_; rotate_left; (intro X hSw; (try dsimp only at hSw); (go_simp <;> with_reducible rfl)))
                  | (refine held_take (i := 15) (v := undef) rfl (by kernel_rfl) (by kernel_rfl) (by kernel_rfl) (fun _ _ _ h => h) (Or.inr ⟨rfl, rfl⟩) (by assumption) ?_)); simp only [Act.put, List.setIfInBounds_toArray, List.set_cons_zero, List.set_cons_succ]
                refine wpAnyH_ready (rs := [16]) (by kernel_rfl) (by simp) ?_
                refine AllReadyH.cons rfl (fun K hK => ?_) AllReadyH.nil
                go_simp
                refine hK.out _ _ ?_ (fun hHeld => ?_)
                · trivial
                clear hK K
                refine wpAnyH_done (by kernel_rfl) ?_ _
                clear c4 f4
                go_wp2
                obtain ⟨⟨ns, e1, e2, e3⟩, hB8⟩ := HNS.out
                exact bodyPost_ret (v := .tuple #[.slice (some ⟨G, 0, none⟩) L.length c3, .string s]) (by simp [results, Try.results34, go_sem]) rfl ⟨ns, some ⟨G, 0, none⟩, c3, s, by rw [e1], by omega, e2, by have := HSZ.out; omega, e3, hB8⟩
              · obtain ⟨x, dx⟩ := four_cell ob hz4
                go_simp
                refine hK.out _ _ ?_ (fun hHeld => ?_)
                · trivial
                clear hK K dx ob
                refine wpAnyH_ready (rs := [4, 12]) (by kernel_rfl) (by simp) ?_
                refine AllReadyH.cons rfl (fun K hK => ?_) (AllReadyH.cons rfl (fun K hK => ?_) AllReadyH.nil)
                · have c4 := HD.c4 hL HEK.out
                  go_simp
                  refine hK.out _ _ ?_ (fun hHeld => ?_)
                  · trivial
                  clear hK K c4
                  refine wpAnyH_ready (rs := [12]) (by kernel_rfl) (by simp) ?_
                  refine AllReadyH.cons rfl (fun K hK => ?_) AllReadyH.nil
                  go_simp
                  have on := cell_one_new' x36 x
                  replace HD := HD.alloc (.cells #[.int .i64 x] 3)
                  refine hK.out _ _ ?_ (fun hHeld => ?_)
                  · trivial
                  clear hK K
                  generalize x36.alloc (.cells #[.int .i64 x] 3) = x43 at HD on ⊢
                  generalize x36.heap.size = B2 at on ⊢
                  refine wpAnyH_ready (rs := [13]) (by kernel_rfl) (by simp) ?_
                  refine AllReadyH.cons rfl (fun K hK => ?_) AllReadyH.nil
                  have hown := HD.f.own 2 (by omega)
                  rw [HEK.out] at hown
                  refine step_own_at x43 rfl _ _ 26 rfl (g + 1) 3 j0 (.int .i64 0) 1 8 Try.underlying26 HJ.out.1 HJ.out.2.1 HJ.out.2.2.1 HJ.out.2.2.2 rfl (by decide) _ _ _ rfl hown ⟨B2, 0, none⟩ 1 1 [.int .i64 x] rfl rfl on (fun u hu => by simp at hu; subst hu; rfl) (by unfold maxLen; omega) (by omega) (by have := HD.size; have := HD.bv; omega) ?_
                  intro v' x44 hown' hgrow hblk
                  obtain ⟨K7, k7, rfl⟩ := own_form hown'
                  obtain ⟨⟨v4, c4⟩, f4, hNS, hB8⟩ := HD.put hL HT.out HEK.out hgrow hown' hblk
                  have HNS := Lib.hid (And.intro hNS hB8)
                  clear hNS hB8 hown' hgrow hblk hown on HD
                  go_simp
                  refine hK.out _ _ ?_ (fun hHeld => ?_)
                  · trivial
                  clear hK K
                  (first
                    | (refine held_take (i := 14) (v := ?_) rfl (by kernel_rfl) (by kernel_rfl) (by kernel_rfl) (fun _ _ _ h => h) (Or.inl ⟨rfl, ?_⟩) (by assumption) ?_; rotate_left; (intro X hSw; (try dsimp only at hSw); (go_simp <;> with_reducible rfl)))
                    | (refine held_take (i := 14) (v := undef) rfl (by kernel_rfl) (by kernel_rfl) (by kernel_rfl) (fun _ _ _ h => h) (Or.inr ⟨rfl, rfl⟩) (by assumption) ?_)); simp only [Act.put, List.setIfInBounds_toArray, List.set_cons_zero, List.set_cons_succ]
                  (first
                    | (refine held_take (i := 15) (v := ?_) rfl (by kernel_rfl) (by kernel_rfl) (by kernel_rfl) (fun _ _ _ h => h) (Or.inl ⟨rfl, ?_⟩) (by assumption) ?_; rotate_left; (intro X hSw; (try dsimp only at hSw); (go_simp <;> with_reducible rfl)))
                    | (refine held_take (i := 15) (v := undef) rfl (by kernel_rfl) (by kernel_rfl) (by kernel_rfl) (fun _ _ _ h => h) (Or.inr ⟨rfl, rfl⟩) (by assumption) ?_)); simp only [Act.put, List.setIfInBounds_toArray, List.set_cons_zero, List.set_cons_succ]
                  refine wpAnyH_ready (rs := [16]) (by kernel_rfl) (by simp) ?_
                  refine AllReadyH.cons rfl (fun K hK => ?_) AllReadyH.nil
                  go_simp
                  refine hK.out _ _ ?_ (fun hHeld => ?_)
                  · trivial
                  clear hK K
                  refine wpAnyH_done (by kernel_rfl) ?_ _
                  clear c4 f4
                  go_wp2
                  obtain ⟨⟨ns, e1, e2, e3⟩, hB8⟩ := HNS.out
                  exact bodyPost_ret (v := .tuple #[.slice (some ⟨G, 0, none⟩) L.length c3, .string s]) (by simp [results, Try.results34, go_sem]) rfl ⟨ns, some ⟨G, 0, none⟩, c3, s, by rw [e1], by omega, e2, by have := HSZ.out; omega, e3, hB8⟩
                · go_simp
                  have on := cell_one_new' x36 x
                  replace HD := HD.alloc (.cells #[.int .i64 x] 3)
                  refine hK.out _ _ ?_ (fun hHeld => ?_)
                  · trivial
                  clear hK K
                  generalize x36.alloc (.cells #[.int .i64 x] 3) = x45 at HD on ⊢
                  generalize x36.heap.size = B2 at on ⊢
                  refine wpAnyH_ready (rs := [4]) (by kernel_rfl) (by simp) ?_
                  refine AllReadyH.cons rfl (fun K hK => ?_) AllReadyH.nil
                  have c4 := HD.c4 hL HEK.out
                  go_simp
                  refine hK.out _ _ ?_ (fun hHeld => ?_)
                  · trivial
                  clear hK K c4
                  refine wpAnyH_ready (rs := [13]) (by kernel_rfl) (by simp) ?_
                  refine AllReadyH.cons rfl (fun K hK => ?_) AllReadyH.nil
                  have hown := HD.f.own 2 (by omega)
                  rw [HEK.out] at hown
                  refine step_own_at x45 rfl _ _ 26 rfl (g + 1) 3 j0 (.int .i64 0) 1 8 Try.underlying26 HJ.out.1 HJ.out.2.1 HJ.out.2.2.1 HJ.out.2.2.2 rfl (by decide) _ _ _ rfl hown ⟨B2, 0, none⟩ 1 1 [.int .i64 x] rfl rfl on (fun u hu => by simp at hu; subst hu; rfl) (by unfold maxLen; omega) (by omega) (by have := HD.size; have := HD.bv; omega) ?_
                  intro v' x47 hown' hgrow hblk
                  obtain ⟨K7, k7, rfl⟩ := own_form hown'
                  obtain ⟨⟨v4, c4⟩, f4, hNS, hB8⟩ := HD.put hL HT.out HEK.out hgrow hown' hblk
                  have HNS := Lib.hid (And.intro hNS hB8)
                  clear hNS hB8 hown' hgrow hblk hown on HD
                  go_simp
                  refine hK.out _ _ ?_ (fun hHeld => ?_)
                  · trivial
                  clear hK K
                  (first
                    | (refine held_take (i := 14) (v := ?_) rfl (by kernel_rfl) (by kernel_rfl) (by kernel_rfl) (fun _ _ _ h => h) (Or.inl ⟨rfl, ?_⟩) (by assumption) ?_; rotate_left; (intro X hSw; (try dsimp only at hSw); (go_simp <;> with_reducible rfl)))
                    | (refine held_take (i := 14) (v := undef) rfl (by kernel_rfl) (by kernel_rfl) (by kernel_rfl) (fun _ _ _ h => h) (Or.inr ⟨rfl, rfl⟩) (by assumption) ?_)); simp only [Act.put, List.setIfInBounds_toArray, List.set_cons_zero, List.set_cons_succ]
                  (first
                    | (refine held_take (i := 15) (v := ?_) rfl (by kernel_rfl) (by kernel_rfl) (by kernel_rfl) (fun _ _ _ h => h) (Or.inl ⟨rfl, ?_⟩) (by assumption) ?_; rotate_left; (intro X hSw; (try dsimp only at hSw); (go_simp <;> with_reducible rfl)))
                    | (refine held_take (i := 15) (v := undef) rfl (by kernel_rfl) (by kernel_rfl) (by kernel_rfl) (fun _ _ _ h => h) (Or.inr ⟨rfl, rfl⟩) (by assumption) ?_)); simp only [Act.put, List.setIfInBounds_toArray, List.set_cons_zero, List.set_cons_succ]
                  refine wpAnyH_ready (rs := [16]) (by kernel_rfl) (by simp) ?_
                  refine AllReadyH.cons rfl (fun K hK => ?_) AllReadyH.nil
                  go_simp
                  refine hK.out _ _ ?_ (fun hHeld => ?_)
                  · trivial
                  clear hK K
                  refine wpAnyH_done (by kernel_rfl) ?_ _
                  clear c4 f4
                  go_wp2
                  obtain ⟨⟨ns, e1, e2, e3⟩, hB8⟩ := HNS.out
                  exact bodyPost_ret (v := .tuple #[.slice (some ⟨G, 0, none⟩) L.length c3, .string s]) (by simp [results, Try.results34, go_sem]) rfl ⟨ns, some ⟨G, 0, none⟩, c3, s, by rw [e1], by omega, e2, by have := HSZ.out; omega, e3, hB8⟩
          --END16
        · have hL' : ¬ (2 : Int) < (L.length : Int) := by omega
          go_wp2
          exact bodyPost_ret (v := .tuple #[.slice A3 L.length c3, .string s]) (by simp [results, Try.results34, go_sem]) rfl ⟨L, A3, c3, s, rfl, hlen, HSM.out, by have := HSZ.out; omega, HD.f.nodes, HD.b⟩
      have hyc' : (y == 2) = false := by simpa using hyc
      go_wp2
      exact bodyPost_ret (v := .tuple #[.slice A3 L.length c3, .string s]) (by simp [results, Try.results34, go_sem]) rfl ⟨L, A3, c3, s, rfl, hlen, HSM.out, by have := HSZ.out; omega, HD.f.nodes, HD.b⟩
end Go.Proofs.Ytcanhkngikeeiaa
