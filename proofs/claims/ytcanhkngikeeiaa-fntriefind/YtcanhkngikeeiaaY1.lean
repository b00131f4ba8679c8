/- Nodes are marked, and held against the marks: markTrieS, heldTrieS. -/
import Derived.Test.YtcanhkngikeeiaaV9
import Derived.Test.YtcanhkngikeeiaaM1
namespace Go.Proofs.Ytcanhkngikeeiaa
open Go.RowKit
set_option linter.unusedVariables false

theorem lst_mid {a z : List Node} {c c' : Node} {p : Nat} (h : p / 2 ≠ a.length) : lst (a ++ c :: z) p = lst (a ++ c' :: z) p := by
  unfold lst
  have e : (a ++ c :: z).getD (p / 2) default = (a ++ c' :: z).getD (p / 2) default := by
    rw [List.getD_eq_getElem?_getD, List.getD_eq_getElem?_getD]
    rcases Nat.lt_or_ge (p / 2) a.length with h1 | h1
    · rw [List.getElem?_append_left h1, List.getElem?_append_left h1]
    · rw [List.getElem?_append_right h1, List.getElem?_append_right h1]
      obtain ⟨q, hq⟩ : ∃ q, p / 2 - a.length = q + 1 := ⟨p / 2 - a.length - 1, by omega⟩
      rw [hq]; simp
  rw [e]
theorem lst_mid0 {a z : List Node} {c : Node} : lst (a ++ c :: z) (2 * a.length) = c.kids := by rw [lst_kid (by simp)]; simp
theorem lst_mid1 {a z : List Node} {c : Node} : lst (a ++ c :: z) (2 * a.length + 1) = c.ids := by rw [lst_ids (by simp)]; simp

section
variable {base G cap : Nat} {a z : List Node} {c c' : Node} {val : Nat → Value} {xs : List Value} {w w' : World}
/-- A node's byte is written. -/
theorem Fo.rebyte {b : Int} (h : Fo base (.slice (some ⟨G, 0, none⟩) (a ++ c :: z).length cap) (a ++ c :: z) val xs w) : Fo base (.slice (some ⟨G, 0, none⟩) (a ++ { c with byte := b } :: z).length cap) (a ++ { c with byte := b } :: z) val (xs.set (a.length * 3) (.int .i64 b)) (w.setCell ⟨G, a.length * 3, none⟩ (.int .i64 b)) := by
  have hl : (a ++ { c with byte := b } :: z).length = (a ++ c :: z).length := by simp
  have hxl := h.row.1
  have hlst : ∀ p, lst (a ++ { c with byte := b } :: z) p = lst (a ++ c :: z) p := fun p => by
    by_cases e : p / 2 = a.length
    · have : p = 2 * a.length ∨ p = 2 * a.length + 1 := by omega
      rcases this with rfl | rfl
      · rw [lst_mid0, lst_mid0]
      · rw [lst_mid1, lst_mid1]
    · exact lst_mid e
  have far : ∀ {u : Value} {n : Nat} {ys : List Value}, w.ownsRow base 3 1 u n ys → (w.setCell ⟨G, a.length * 3, none⟩ (.int .i64 b)).ownsRow base 3 1 u n ys := by
    intro u n ys hu
    refine ⟨hu.1, ?_⟩
    rcases hu.2 with ⟨e1, e2⟩ | ⟨g, cc, cur, e1, e2, e3, e4⟩
    · exact .inl ⟨e1, e2⟩
    · refine .inr ⟨g, cc, cur, e1, e2, (Below.heap_setCell w _ _ g ?_).trans e3, e4⟩
      intro e
      simp only at e
      subst e
      obtain ⟨c1, q1⟩ := kind h.row (k := g) rfl
      rw [q1] at e3
      injection e3 with e3
      injection e3 with _ e3
      cases e3
  refine ⟨by rw [hl]; exact (h.row.stored _ _).1, fun i hi => ?_, fun q hq => ?_, fun p q k hp hq hpq hk => h.apt p q k (by rw [← hl]; exact hp) (by rw [← hl]; exact hq) hpq hk⟩
  · rw [hl] at hi
    obtain ⟨h1, h2, h3⟩ := h.cel i hi
    refine ⟨?_, ?_, ?_⟩
    · by_cases e : i = a.length
      · subst e
        rw [List.getElem?_set_self (by omega)]; simp
      · rw [List.getElem?_set_ne (by omega), h1]
        have : (a ++ c :: z)[i]? = (a ++ { c with byte := b } :: z)[i]? := by
          rcases Nat.lt_or_ge i a.length with q | q
          · rw [List.getElem?_append_left q, List.getElem?_append_left q]
          · rw [List.getElem?_append_right q, List.getElem?_append_right q]
            obtain ⟨r, hr⟩ : ∃ r, i - a.length = r + 1 := ⟨i - a.length - 1, by omega⟩
            rw [hr]; simp
        rw [List.getElem?_eq_getElem hi, List.getElem?_eq_getElem (by rw [hl]; exact hi)] at this
        injection this with this
        rw [this]
    · rw [List.getElem?_set_ne (by omega)]; exact h2
    · rw [List.getElem?_set_ne (by omega)]; exact h3
  · rw [hlst q]
    exact far (h.own q (by rw [← hl]; exact hq))
/-- One of a node's lists is written over. -/
theorem Fo.relist {q : Nat} (h : Fo base (.slice (some ⟨G, 0, none⟩) (a ++ c :: z).length cap) (a ++ c :: z) val xs w) (hb : c'.byte = c.byte) (hq : q / 2 = a.length) (hother : ∀ p, p / 2 = a.length → p ≠ q → lst (a ++ c' :: z) p = lst (a ++ c :: z) p)
    (hg : w.grownBy w' (val q).ownBlock) (ho : w'.ownsRow base 3 1 (val q) (lst (a ++ c' :: z) q).length (ints (lst (a ++ c' :: z) q))) : Fo base (.slice (some ⟨G, 0, none⟩) (a ++ c' :: z).length cap) (a ++ c' :: z) val xs w' := by
  have hl : (a ++ c' :: z).length = (a ++ c :: z).length := by simp
  have hq2 : q < 2 * (a ++ c :: z).length := by simp; omega
  have hbyte : ∀ i (hi : i < (a ++ c :: z).length), ((a ++ c' :: z)[i]'(by rw [hl]; exact hi)).byte = (a ++ c :: z)[i].byte := by
    intro i hi
    rcases Nat.lt_or_ge i a.length with q | q
    · rw [List.getElem_append_left q, List.getElem_append_left q]
    · rw [List.getElem_append_right q, List.getElem_append_right q]
      rcases Nat.eq_or_lt_of_le q with e | e
      · subst e; simp [hb]
      · obtain ⟨r, hr⟩ : ∃ r, i - a.length = r + 1 := ⟨i - a.length - 1, by omega⟩
        simp [hr]
  refine ⟨by rw [hl]; exact h.row.kept hg (.inr (fun e => h.rowApt hq2 (k := G) rfl e.symm)), fun i hi => ?_, fun p hp => ?_, fun p q k hp hq hpq hk => h.apt p q k (by rw [← hl]; exact hp) (by rw [← hl]; exact hq) hpq hk⟩
  · rw [hbyte i (by rw [← hl]; exact hi)]
    exact h.cel i (by rw [← hl]; exact hi)
  · by_cases e : p = q
    · subst e; exact ho
    · have el : lst (a ++ c' :: z) p = lst (a ++ c :: z) p := by
        by_cases e2 : p / 2 = a.length
        · exact hother p e2 e
        · exact lst_mid e2
      rw [el]
      have hp' : p < 2 * (a ++ c :: z).length := by rw [← hl]; exact hp
      refine (h.own p hp').kept hg ?_
      by_cases e3 : (val p).ownBlock = none
      · exact .inl e3
      · obtain ⟨k, hk⟩ := Option.ne_none_iff_exists'.1 e3
        exact .inr (fun e4 => h.apt p q k hp' hq2 e hk (by rw [← e4]; exact hk))
end

/-- A node with marks from k on. -/
def mkNode (n : Node) (k : Int) : Node := ⟨k, marks (k + 1) n.kids.length, marks (k + 1 + n.kids.length) n.ids.length⟩
def mkEnd (n : Node) (k : Int) : Int := k + 1 + n.kids.length + n.ids.length
def mkAll : List Node → Int → List Node
  | [], _ => []
  | n :: l, k => mkNode n k :: mkAll l (mkEnd n k)
def mkLast : List Node → Int → Int
  | [], k => k
  | n :: l, k => mkLast l (mkEnd n k)
theorem mkAll_snoc : ∀ (l : List Node) (n : Node) (k : Int), mkAll (l ++ [n]) k = mkAll l k ++ [mkNode n (mkLast l k)] ∧ mkLast (l ++ [n]) k = mkEnd n (mkLast l k)
  | [], n, k => ⟨rfl, rfl⟩
  | x :: l, n, k => by
    obtain ⟨h1, h2⟩ := mkAll_snoc l n (mkEnd x k)
    exact ⟨by rw [List.cons_append, mkAll, h1]; rfl, by rw [List.cons_append, mkLast, h2]; rfl⟩
@[simp] theorem mkAll_length : ∀ (l : List Node) (k : Int), (mkAll l k).length = l.length
  | [], k => rfl
  | x :: l, k => by rw [mkAll, List.length_cons, mkAll_length l]; rfl
/-- Few in each list. -/
def Tiny (ns : List Node) : Prop := ∀ n ∈ ns, n.kids.length ≤ 241 ∧ n.ids.length ≤ 40
theorem mkLast_le : ∀ (l : List Node) (k : Int), Tiny l → k ≤ mkLast l k ∧ mkLast l k ≤ k + 300 * l.length
  | [], k, _ => by simp [mkLast]
  | x :: l, k, h => by
    have h1 := mkLast_le l (mkEnd x k) (fun n hn => h n (by simp [hn]))
    have h2 := h x (by simp)
    unfold mkLast
    unfold mkEnd at h1 ⊢
    rw [List.length_cons]
    omega
theorem mkAll_get : ∀ (l : List Node) (k : Int) (i : Nat) (h : i < l.length), (mkAll l k)[i]'(by rw [mkAll_length]; exact h) = mkNode l[i] (mkLast (l.take i) k)
  | x :: l, k, 0, h => rfl
  | x :: l, k, i + 1, h => by
    have := mkAll_get l (mkEnd x k) i (by simpa using h)
    simpa [mkAll, mkLast] using this

/-- What marking leaves. -/
def MarkTPost (base : Nat) (v : Value) (ns : List Node) (val : Nat → Value) (k : Int) (w : World) (e : Ending) (w' : World) : Prop :=
  e = .returned (.int .i64 (mkLast ns k)) ∧ (∃ xs', Fo base v (mkAll ns k) val xs' w') ∧ Fr (Foot v ns.length val) (Foot v ns.length val) w w'

set_option maxRecDepth 100000 in
set_option maxHeartbeats 4000000 in
theorem markTS_any (base : Nat) (A : Option Addr) (cap : Nat) (ns : List Node) (val : Nat → Value) (xs : List Value) (k : Int) (w : World) (hF : Fo base (.slice A ns.length cap) ns val xs w) (hT : Tiny ns) (hn : ns.length ≤ 241) (hk0 : 1 ≤ k) (hk1 : k ≤ 1000) :
    Calls Try.prog 45 #[.slice A ns.length cap, .int .i64 k] w (MarkTPost base (.slice A ns.length cap) ns val k w) := by
  have HF := Lib.hid hF
  have HT := Lib.hid hT
  clear hF hT
  go_enter Try.func45, Try.ntmps45
  go_wp2
  go_loopg [1, 5] (ns.length) (fun gk x i wr => ∃ (j : Nat) (ys : List Value), j ≤ ns.length ∧ ns.length - j ≤ gk ∧ i = .int .i64 j ∧ x = .int .i64 (mkLast (ns.take j) k) ∧ Aside (Fo base (.slice A ns.length cap) (mkAll (ns.take j) k ++ ns.drop j) val ys wr ∧ Fr (Foot (.slice A ns.length cap) ns.length val) (Foot (.slice A ns.length cap) ns.length val) w wr))
  case atStart => exact ⟨0, xs, Nat.zero_le _, by omega, rfl, rfl, ⟨by simpa [mkAll] using HF.out, Fr.refl _ _⟩⟩
  case round =>
    obtain ⟨j, ys, hj, hjg, rfl, rfl, S1⟩ := hrel
    have hml := mkLast_le (ns.take j) k (fun n hn => HT.out n (List.mem_of_mem_take hn))
    have htl : (ns.take j).length ≤ 241 := by simp; omega
    generalize hKJ : mkLast (ns.take j) k = kj at *
    have hkj0 : 1 ≤ kj := by omega
    have hkj1 : kj ≤ 100000 := by omega
    have HKJ := Lib.hid hKJ
    clear hKJ hml
    by_cases hlt : j < ns.length
    · have hlt' : (j : Int) < (ns.length : Int) := by omega
      obtain ⟨nn, hnn⟩ : ∃ nn, nn = ns[j] := ⟨_, rfl⟩
      obtain ⟨t1, t2⟩ := HT.out ns[j] (List.getElem_mem hlt)
      rw [← hnn] at t1 t2
      obtain ⟨aa, haa⟩ : ∃ aa, aa = mkAll (ns.take j) k := ⟨_, rfl⟩
      have hal : aa.length = j := by rw [haa, mkAll_length]; simp; omega
      have hdr : ns.drop j = nn :: ns.drop (j + 1) := by rw [hnn]; exact List.drop_eq_getElem_cons hlt
      have hF0 := S1.out.1
      rw [← haa, hdr] at hF0
      have hlen : (aa ++ nn :: ns.drop (j + 1)).length = ns.length := by simp [hal]; omega
      obtain ⟨G, cp', e1⟩ := own_some S1.out.1.row (by simp; omega)
      injection e1 with e1 em e2
      clear em
      subst e1 e2
      rw [← hlen] at hF0
      -- the byte
      have hF1 := hF0.rebyte (b := kj)
      rw [hal] at hF1
      have hG := hF0.row.lt G rfl
      obtain ⟨v0, c0⟩ : ∃ x, wr.cell? ⟨G, j * 3, none⟩ = some x := ⟨_, (hF0.row.cellAt (j * 3) (by rw [hlen]; omega)).trans (List.getElem?_eq_getElem (by rw [hF0.row.1, hlen]; omega))⟩
      have f0 := hF0.row.frozenAt (j * 3)
      have hFr1 : Fr (Foot (.slice (some ⟨G, 0, none⟩) ns.length cap) ns.length val) (Foot (.slice (some ⟨G, 0, none⟩) ns.length cap) ns.length val) wr (wr.setCell ⟨G, j * 3, none⟩ (.int .i64 kj)) := ⟨rfl, rfl, rfl, by simp, fun q hq hF => Below.heap_setCell wr _ _ q (fun e => hF (.inl (by simp only at e; rw [e]; rfl))), fun _ _ h => h⟩
      -- the kids
      have o1 := hF1.own (2 * j) (by simp [hal] <;> omega)
      have el1 : lst (aa ++ { nn with byte := kj } :: ns.drop (j + 1)) (2 * j) = nn.kids := by rw [← hal, lst_mid0]
      rw [el1] at o1
      obtain ⟨KA, kc, ek⟩ := own_form o1
      have q1 : wr.cell? ⟨G, j * 3 + 1, none⟩ = some (.slice KA nn.kids.length kc) := by
        have h1 := (hF0.cel j (by simp [hal])).2.1
        rw [← ek, hF0.row.cellAt _ (by simp [hal] <;> omega)]; exact h1
      rw [ek] at o1
      have H42 := Lib.hid (markI_any base KA kc nn.kids (kj + 1) _ o1 (by omega) (by omega) (by omega))
      have HS := Lib.hid (And.intro hF1 (And.intro hFr1 (And.intro hal (And.intro hlen (And.intro ek (And.intro haa (And.intro hdr hnn)))))))
      clear hF0 hF1 hFr1 o1 el1 ek hal hlen hdr haa hnn
      go_wp2_with fail
      refine H42.out.mono ?_
      rintro e w2 ⟨rfl, o2, g2⟩
      obtain ⟨hF1, hFr1, hal, hlen, ek, haa, hdr, hnn⟩ := HS.out
      have hF2 : Fo base (.slice (some ⟨G, 0, none⟩) (aa ++ (⟨kj, marks (kj + 1) nn.kids.length, nn.ids⟩ : Node) :: ns.drop (j + 1)).length cap) (aa ++ ⟨kj, marks (kj + 1) nn.kids.length, nn.ids⟩ :: ns.drop (j + 1)) val (ys.set (j * 3) (.int .i64 kj)) w2 := by
        refine hF1.relist (q := 2 * j) rfl (by omega) (fun p hp hpq => ?_) (by rw [ek]; exact g2) ?_
        · obtain rfl : p = 2 * aa.length + 1 := by omega
          rw [lst_mid1, lst_mid1]
        · rw [← hal, lst_mid0, hal, ek]
          simpa using o2
      have hb2 := (hFr1.trans (⟨g2.os, g2.tape, g2.output, g2.size, fun q hq hF => g2.block q hq (fun e => hF (.inr ⟨2 * j, by omega, by rw [ek]; exact e.symm⟩)), fun _ _ h => h⟩ : Fr (Foot (.slice (some ⟨G, 0, none⟩) ns.length cap) ns.length val) (Foot (.slice (some ⟨G, 0, none⟩) ns.length cap) ns.length val) _ w2))
      have o3 := hF2.own (2 * j + 1) (by simp [hal] <;> omega)
      have el2 : lst (aa ++ (⟨kj, marks (kj + 1) nn.kids.length, nn.ids⟩ : Node) :: ns.drop (j + 1)) (2 * j + 1) = nn.ids := by rw [← hal, lst_mid1]
      rw [el2] at o3
      obtain ⟨JA, jc, ej⟩ := own_form o3
      have q2 : w2.cell? ⟨G, j * 3 + 2, none⟩ = some (.slice JA nn.ids.length jc) := by
        have h1 := (hF2.cel j (by simp [hal])).2.2
        rw [← ej, hF2.row.cellAt _ (by simp [hal] <;> omega)]; exact h1
      rw [ej] at o3
      have H42b := Lib.hid (markI_any base JA jc nn.ids (kj + 1 + nn.kids.length) _ o3 (by omega) (by omega) (by omega))
      have HS2 := Lib.hid (And.intro hF2 (And.intro hb2 (And.intro hal (And.intro hlen (And.intro ej (And.intro haa (And.intro hdr hnn)))))))
      have hG2 := hF2.row.lt G rfl
      clear hF1 hFr1 hal hlen ek haa hdr hnn HS H42 o2 g2 hF2 hb2 o3 el2 ej c0 f0 q1
      go_wp2_with fail
      refine H42b.out.mono ?_
      rintro e w3 ⟨rfl, o4, g4⟩
      obtain ⟨hF2, hb2, hal, hlen, ej, haa, hdr, hnn⟩ := HS2.out
      have hF3 : Fo base (.slice (some ⟨G, 0, none⟩) (aa ++ mkNode nn kj :: ns.drop (j + 1)).length cap) (aa ++ mkNode nn kj :: ns.drop (j + 1)) val (ys.set (j * 3) (.int .i64 kj)) w3 := by
        refine hF2.relist (q := 2 * j + 1) rfl (by omega) (fun p hp hpq => ?_) (by rw [ej]; exact g4) ?_
        · obtain rfl : p = 2 * aa.length := by omega
          rw [lst_mid0, lst_mid0]; rfl
        · rw [← hal, lst_mid1, hal, ej]
          simpa [mkNode] using o4
      have hb3 := (hb2.trans (⟨g4.os, g4.tape, g4.output, g4.size, fun q hq hF => g4.block q hq (fun e => hF (.inr ⟨2 * j + 1, by omega, by rw [ej]; exact e.symm⟩)), fun _ _ h => h⟩ : Fr (Foot (.slice (some ⟨G, 0, none⟩) ns.length cap) ns.length val) (Foot (.slice (some ⟨G, 0, none⟩) ns.length cap) ns.length val) _ w3))
      have htk : ns.take (j + 1) = ns.take j ++ [nn] := by rw [hnn]; exact List.take_succ_eq_append_getElem hlt
      obtain ⟨m1, m2⟩ := mkAll_snoc (ns.take j) nn k
      rw [← htk, HKJ.out] at m1 m2
      have hfit : aa ++ mkNode nn kj :: ns.drop (j + 1) = mkAll (ns.take (j + 1)) k ++ ns.drop (j + 1) := by rw [m1, haa]; simp
      have hl3 : (aa ++ mkNode nn kj :: ns.drop (j + 1)).length = ns.length := by simp [hal]; omega
      rw [hl3, hfit] at hF3
      have HE := Lib.hid (And.intro hF3 (And.intro (S1.out.2.trans hb3) m2))
      clear hF2 hb2 hal hlen ej haa hdr hnn HS2 H42b o4 g4 hF3 hb3 htk m1 m2 hfit hl3 q2 S1
      go_wp2
      go_roundg (ns.length - (j + 1))
      case measure => omega
      case rel => exact ⟨j + 1, _, by omega, by omega, by go_num, by rw [HE.out.2.2]; unfold mkEnd; go_num, ⟨HE.out.1, HE.out.2.1⟩⟩
    · have hlt' : ¬ (j : Int) < (ns.length : Int) := by omega
      obtain rfl : j = ns.length := by omega
      go_wp2
      go_ret
      have htk : ns.take ns.length = ns := List.take_of_length_le (Nat.le_refl _)
      refine ⟨by rw [← HKJ.out, htk]; rfl, ⟨ys, ?_⟩, S1.out.2⟩
      have := S1.out.1
      rw [htk, List.drop_eq_nil_of_le (Nat.le_refl _), List.append_nil] at this
      exact this

set_option maxRecDepth 100000 in
set_option maxHeartbeats 2000000 in
theorem heldTS_any (A : Option Addr) (cap : Nat) (ns : List Node) (k : Int) (w : World) (hN : Nodes w A (mkAll ns k)) (hT : Tiny ns) (hn : ns.length ≤ 241) (hk0 : 1 ≤ k) (hk1 : k ≤ 1000) :
    Calls Try.prog 46 #[.slice A ns.length cap, .int .i64 k] w fun e w' => e = .returned (.int .i64 (mkLast ns k)) ∧ w = w' := by
  have HN := Lib.hid hN
  have HT := Lib.hid hT
  clear hN hT
  go_enter Try.func46, Try.ntmps46
  go_wp2
  go_loopw [1, 5] (fun x i wr => ∃ j : Nat, j ≤ ns.length ∧ i = .int .i64 j ∧ x = .int .i64 (mkLast (ns.take j) k) ∧ w = wr) (fun _ i _ => ns.length - (intOf i).toNat)
  case atStart => exact ⟨0, Nat.zero_le _, rfl, rfl, rfl⟩
  case round =>
    obtain ⟨j, hj, rfl, rfl, rfl⟩ := hrel
    have hml := mkLast_le (ns.take j) k (fun n hn => HT.out n (List.mem_of_mem_take hn))
    have htl : (ns.take j).length ≤ 241 := by simp; omega
    generalize hKJ : mkLast (ns.take j) k = kj at *
    have hkj0 : 1 ≤ kj := by omega
    have hkj1 : kj ≤ 100000 := by omega
    have HKJ := Lib.hid hKJ
    clear hKJ hml
    by_cases hlt : j < ns.length
    · have hlt' : (j : Int) < (ns.length : Int) := by omega
      obtain ⟨b, off, rfl, K, kc, J, jc, hn⟩ := HN.out.at_ (i := j) (by rw [mkAll_length]; exact hlt)
      rw [mkAll_get ns k j hlt, HKJ.out] at hn
      obtain ⟨t1, t2⟩ := HT.out ns[j] (List.getElem_mem hlt)
      have htk : ns.take (j + 1) = ns.take j ++ [ns[j]] := List.take_succ_eq_append_getElem hlt
      obtain ⟨m1, m2⟩ := mkAll_snoc (ns.take j) ns[j] k
      rw [← htk, HKJ.out] at m2
      generalize ns[j] = nn at *
      have c0 := hn.c0
      have c1 := hn.c1
      have c2 := hn.c2
      have H1 := Lib.hid (heldI_any K kc nn.kids.length (kj + 1) w hn.k (by omega) (by omega) (by omega))
      have H2 := Lib.hid (heldI_any J jc nn.ids.length (kj + 1 + nn.kids.length) w hn.j (by omega) (by omega) (by omega))
      simp only [mkNode, marks_length] at c0 c1 c2
      have HM := Lib.hid m2
      have hne : (kj != kj) = false := by simp
      have hp1 : ¬ (kj + 1 + (nn.kids.length : Int)) < 0 := by omega
      have hp2 : ¬ (kj + 1 + (nn.kids.length : Int) + (nn.ids.length : Int)) < 0 := by omega
      clear hn m1 m2 htk
      go_wp2_with fail
      refine H1.out.mono ?_
      rintro e w2 ⟨rfl, rfl⟩
      go_wp2_with fail
      refine H2.out.mono ?_
      rintro e w3 ⟨rfl, rfl⟩
      go_wp2
      go_roundw
      case rel => exact ⟨j + 1, by omega, by go_num, by rw [HM.out]; unfold mkEnd; go_num, trivial⟩
      case measure => simp [intOf]; omega
    · have hlt' : ¬ (j : Int) < (ns.length : Int) := by omega
      obtain rfl : j = ns.length := by omega
      go_wp2
      go_ret
      have htk : ns.take ns.length = ns := List.take_of_length_le (Nat.le_refl _)
      exact ⟨by rw [← HKJ.out, htk]; rfl, rfl⟩

theorem trie_tiny {ss : List ByteArray} {en : Int} : Tiny (trieOf ss en) := by
  intro n hn
  cases h : vocOkB ss en with
  | false => rw [trie_none h] at hn; simp at hn
  | true =>
    obtain ⟨h1, h2⟩ := trie_len h
    obtain ⟨h3, h4⟩ := trie_kids h
    refine ⟨?_, ?_⟩
    · have q := kids_len hn
      have := h3.length_eq
      have e : (rngI 1 ((trieOf ss en).length - 1)).length = (trieOf ss en).length - 1 := by simp [rngI]
      omega
    · have e : trieOf ss en = tree (idsS ss en) (nextS ss en) 6 0 0 ⟨#[]⟩ := by unfold trieOf; rw [h]; rfl
      have key : ∀ n ∈ trieOf ss en, ∃ s', n.ids = idsS ss en s' := by rw [e]; exact tree_ids (idsS ss en) (nextS ss en) 6 0 0 ⟨#[]⟩
      obtain ⟨s', hs'⟩ := key _ hn
      rw [hs']
      have := begIds_length ss en s' ss.length
      have := (vocOk_parts h).2.1
      unfold idsS
      omega
/-- Nodes stay while a block that is none of theirs turns. -/
theorem Fo.away {base : Nat} {v : Value} {ns : List Node} {val : Nat → Value} {xs : List Value} {w w' : World} {row : Option Nat} (h : Fo base v ns val xs w) (hg : w.grownBy w' row) (hr : ∀ k, row = some k → ¬ Foot v ns.length val k) : Fo base v ns val xs w' := by
  refine ⟨h.row.kept hg ?_, h.cel, fun q hq => (h.own q hq).kept hg ?_, h.apt⟩
  · by_cases e : v.ownBlock = none
    · exact .inl e
    · obtain ⟨k, hk⟩ := Option.ne_none_iff_exists'.1 e
      exact .inr (fun e2 => hr k (by rw [← e2]; exact hk) (.inl hk))
  · by_cases e : (val q).ownBlock = none
    · exact .inl e
    · obtain ⟨k, hk⟩ := Option.ne_none_iff_exists'.1 e
      exact .inr (fun e2 => hr k (by rw [← e2]; exact hk) (.inr ⟨q, hq, hk⟩))
theorem Fo.below {base B : Nat} {v : Value} {ns : List Node} {val : Nat → Value} {xs : List Value} {w w' : World} (h : Fo base v ns val xs w) (hb : Below B w w') (hB : ∀ k, Foot v ns.length val k → k < B) : Fo base v ns val xs w' := by
  have key : ∀ {e : TypeId} {size n : Nat} {u : Value} {zs : List Value}, w.ownsRow base e size u n zs → (∀ k, u.ownBlock = some k → k < B) → w'.ownsRow base e size u n zs := by
    intro e size n u zs hu hk
    refine ⟨hu.1, ?_⟩
    rcases hu.2 with ⟨e1, e2⟩ | ⟨g, cc, cur, e1, e2, e3, e4⟩
    · exact .inl ⟨e1, e2⟩
    · exact .inr ⟨g, cc, cur, e1, e2, (hb.block g (hk g (by rw [e1]; rfl))).trans e3, e4⟩
  exact ⟨key h.row (fun k hk => hB k (.inl hk)), h.cel, fun q hq => key (h.own q hq) (fun k hk => hB k (.inr ⟨q, hq, hk⟩)), h.apt⟩

end Go.Proofs.Ytcanhkngikeeiaa
