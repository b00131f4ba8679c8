/- Appending inside a region that draws its order, to a row of the call's own, whatever is appended. -/
import Derived.Test.YtcanhkngikeeiaaVocTextW
import Derived.Maps.AppendAt
namespace Go.Proofs.Ytcanhkngikeeiaa
open Go.RowKit
set_option linter.unusedVariables false

theorem step_own {P : Program} (w : World) {ops : Array Oper} {o : Oper} {a : Act} {K : Act → World → Prop} {Q : Exit → Act → World → Prop} {E : Prop} (hgd : o.guard = none) (s x : Operand) (t : TypeId)
    (ho : o.op = .call { callee := .builtin .append, args := #[s, x], argTypes := #[t, t] })
    (base : Nat) (e : TypeId) (i : TypeInfo) (z : Value) (size bytes : Nat) (ht : P.underlying t = some (.slice e)) (hi : P.info? e = some i) (hz : i.zero = some z)
    (hsize : i.size = size) (hby : i.bytes = bytes) (hzs : z.cells.size = size) (hsz : 0 < size)
    (b n c0 : Nat) (xs : List Value) (hs : a.eval s = .slice (some ⟨b, 0, none⟩) n c0) (hown : w.ownsRow base e size (.slice (some ⟨b, 0, none⟩) n c0) n xs)
    (ad : Addr) (m c : Nat) (news : List Value) (hx : a.eval x = .slice (some ad) m c) (hl : news.length = m * size) (hnews : ∀ j u, news[j]? = some u → w.cell? (ad.add j) = some u) (h1 : ∀ u ∈ news, u.oneCell' = true)
    (h63 : n + m ≤ maxLen) (hbytes : (n + m) * bytes ≤ 140737488355328) (hbase : base ≤ w.heap.size)
    (h : ∀ g cap w', w'.ownsRow base e size (.slice (some ⟨g, 0, none⟩) (n + m) cap) (n + m) (xs ++ news) → w.grownBy w' (some b) → (g = b ∨ g = w.heap.size) → K (a.put o.dst (.slice (some ⟨g, 0, none⟩) (n + m) cap)) w') :
    if Region.wanted o (yielded ops a.tmps) = true then Oper.wp P o a w K Q else E := by
  have hw : Region.wanted o (yielded ops a.tmps) = true := by simp [Region.wanted, hgd]
  rw [if_pos hw]
  obtain ⟨v', w', hr, h2, h3, h4, h5⟩ := run_append_own_at (P := P) w base t o.type e i z size bytes ht hi hz hsize hby hzs hsz _ n xs hown ad m c news hl hnews h1 h63 hbytes hbase
  unfold Oper.wp execOp
  simp only [ho, resolve, invoke, builtin, Sem.run_bind, Sem.run_pure, Result.andThen_ok, List.map_toArray, List.map_cons, List.map_nil, hs, hx, hr]
  rcases h2.2 with ⟨q1, _⟩ | ⟨g, cap', cur, q1, _⟩
  · have := (h4.1 q1).1
    cases this
  · subst q1
    refine h g cap' w' h2 h3 ?_
    rcases h5 with q | q
    · left; simpa [Value.ownBlock] using q
    · right; simpa [Value.ownBlock] using q

theorem Own.news {w : World} {O : Nat} {t : TypeId} {xs : List Value} (h : Own w O t xs) : ∀ j u, xs[j]? = some u → w.cell? ((⟨O, 0, none⟩ : Addr).add j) = some u := by
  intro j u hu
  have e1 : (Addr.add ⟨O, 0, none⟩ j) = ⟨O, j, none⟩ := by unfold Addr.add; split <;> simp_all
  rw [e1, h.cell]
  exact hu
theorem Row.news {w : World} {G : Nat} {zs : List Int} (h : Row w (some ⟨G, 0, none⟩) (ints zs)) : ∀ j u, (ints zs)[j]? = some u → w.cell? ((⟨G, 0, none⟩ : Addr).add j) = some u := by
  intro j u hu
  have e1 : (Addr.add ⟨G, 0, none⟩ j) = ⟨G, j, none⟩ := by unfold Addr.add; split <;> simp_all
  rcases h with h | ⟨b, off, e, h⟩
  · rw [h] at hu; cases hu
  · injection e with e; injection e with e2 e3; subst e2 e3
    obtain ⟨hj, hu⟩ := List.getElem?_eq_some_iff.1 hu
    have := h j hj
    rw [Nat.zero_add] at this
    rw [e1, this, hu]
theorem ints_cell (zs : List Int) : ∀ u ∈ ints zs, u.oneCell' = true := by
  intro u hu
  simp [ints] at hu
  obtain ⟨a, _, rfl⟩ := hu
  rfl
theorem ints_set_last (ids : List Int) (x y : Int) : (ints (ids ++ [x])).set ids.length (.int .i64 y) = ints (ids ++ [y]) := by
  simp [ints, List.map_append]

end Go.Proofs.Ytcanhkngikeeiaa
