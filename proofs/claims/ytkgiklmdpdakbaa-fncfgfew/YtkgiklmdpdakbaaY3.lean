/- The kids of a part are drawn, if its kids can be: l71Kids. -/
import Derived.Test.YtkgiklmdpdakbaaY2
namespace Go.Proofs.Ytkgiklmdpdakbaa
open Go.RowKit
set_option linter.unusedVariables false

theorem infoY31 : (Try.prog.info? 88).map (fun i => (i.zero, i.size, i.bytes)) = some (some (.agg #[.int .i64 0, .string ⟨#[]⟩, .slice none 0 0, .slice none 0 0, .slice none 0 0, .int .i64 0, .int .i64 0]), 7, 112) := by kernel_rfl

/-- Whatever slice is appended, at the operation. -/
theorem wpList_append_any {P : Program} (w : World) {ops : Array Oper} {rest : List Oper} {o : Oper} {a : Act} {Q : Exit → Act → World → Prop} (hgd : o.guard = none) (s x : Operand) (t : TypeId)
    (ho : o.op = .call { callee := .builtin .append, args := #[s, x], argTypes := #[t, t] })
    (base : Nat) (e : TypeId) (i : TypeInfo) (z : Value) (size bytes : Nat) (ht : P.underlying t = some (.slice e)) (hi : P.info? e = some i) (hz : i.zero = some z)
    (hsize : i.size = size) (hby : i.bytes = bytes) (hzs : z.cells.size = size) (hsz : 0 < size)
    (v : Value) (n : Nat) (xs : List Value) (hs : a.eval s = v) (hown : w.ownsRow base e size v n xs)
    (A : Option Addr) (m c : Nat) (news : List Value) (hx : a.eval x = .slice A m c) (hA : A = none → m = 0) (hl : news.length = m * size) (hnews : ∀ ad, A = some ad → ∀ j u, news[j]? = some u → w.cell? (ad.add j) = some u) (h1 : ∀ u ∈ news, u.oneCell' = true)
    (h63 : n + m ≤ maxLen) (hbytes : (n + m) * bytes ≤ 140737488355328) (hbase : base ≤ w.heap.size)
    (h : ∀ v' w', w'.ownsRow base e size v' (n + m) (xs ++ news) → w.grownBy w' v.ownBlock → (v'.ownBlock = v.ownBlock ∨ v'.ownBlock = some w.heap.size) → wpList P ops Q rest (a.put o.dst v') w') :
    wpList P ops Q (o :: rest) a w := by
  refine wpList_plain hgd fun K hK => ?_
  obtain ⟨v', w', hr, h2, h3, h5⟩ := run_append_any (P := P) w base t o.type e i z size bytes ht hi hz hsize hby hzs hsz v n xs hown A m c news hA hl hnews h1 h63 hbytes hbase
  unfold Oper.wp execOp
  simp only [ho, resolve, invoke, builtin, Sem.run_bind, Sem.run_pure, Result.andThen_ok, List.map_toArray, List.map_cons, List.map_nil, hs, hx, hr]
  exact hK _ _ (h v' w' h2 h3 h5)

/-- Names that can be read. -/
def Nm (w : World) (g : Nat) (A : Option Addr) (ns : List ByteArray) : Prop :=
  0 < ns.length ∧ ns.length ≤ 4 ∧ (∀ s ∈ ns, s.size ≤ 10) ∧ ∃ b off, A = some ⟨b, off, none⟩ ∧ b ≠ g ∧ ∀ i (h : i < ns.length), w.cell? ⟨b, off + i, none⟩ = some (.string ns[i])
theorem Nm.touch {w w' : World} {g : Nat} {A : Option Addr} {ns : List ByteArray} (h : Nm w g A ns) (hg : w.grownBy w' (some g)) : Nm w' g A ns := by
  obtain ⟨h0, h1, h2, b, off, e, hne, hc⟩ := h
  exact ⟨h0, h1, h2, b, off, e, hne, fun i hi => by rw [World.cell?_of_block (w := w) (hg.block b (cell_lt (hc i hi)) (fun e => hne (by injection e)))]; exact hc i hi⟩
theorem Nm.keep {w w' : World} {g : Nat} {A : Option Addr} {ns : List ByteArray} (h : Nm w g A ns) (hb : Below w.heap.size w w') : Nm w' g A ns := h.touch (only_of_below hb (Nat.le_refl _) _)

def cost (d : Nat) : Nat := 25 * 4 ^ d
theorem cost_succ (d : Nat) : cost (d + 1) = 4 * cost d := by unfold cost; rw [Nat.pow_succ]; omega
theorem cost_one (d : Nat) : 25 ≤ cost d := by unfold cost; have := Nat.pow_pos (n := d) (show 0 < 4 by decide); omega

/-- A part is drawn: in new memory; of what was there only the reader's block has turned. -/
def PartPost (w : World) (B g N d : Nat) (e : Ending) (w' : World) : Prop :=
  ∃ (k : Int) (t : ByteArray) (lo hi : List Int) (kids : List Pt) (mn mx : Int) (A C K : Option Addr) (ca cc kc : Nat), e = .returned (.agg (c7 k t A lo.length ca C hi.length cc K kids.length kc mn mx).toArray) ∧
    TopP w' w.heap.size lo hi kids A C K ca cc kc ∧ Lim 1000 (.mk k t lo hi kids mn mx) ∧ kids.length ≤ 3 ^ d ∧ (k = 5 → 2 ≤ kids.length) ∧ Rd w' B g (N + cost d) ∧ w.grownBy w' (some g)
def PartD (d : Nat) : Prop := ∀ (B g N : Nat) (A : Option Addr) (c : Nat) (ns : List ByteArray) (w : World), Rd w B g N → B ≤ w.heap.size → N + cost d ≤ 40000 → Nm w g A ns →
  Calls Try.prog 52 #[.pointer (some ⟨g, 0, none⟩), .slice A ns.length c, .int .i64 d] w (PartPost w B g N d)

/-- The kids under way. -/
structure KS (w0 : World) (B g N : Nat) (kind : Int) (kids : List Pt) (K : Option Addr) (kc : Nat) (w : World) : Prop where
  p : Own w (w0.heap.size + 1) 88 (c7 kind ⟨#[]⟩ none 0 0 none 0 0 K kids.length kc 0 0)
  r : Own w w0.heap.size 88 (c7 0 ⟨#[]⟩ none 0 0 none 0 0 none 0 0 0 0)
  k : KR w (w0.heap.size + 2) (fun _ => True) (.slice K kids.length kc) kids
  rd : Rd w B g N
  fr : w0.grownBy w (some g)
  hB : B ≤ w0.heap.size
  lim : ∀ p ∈ kids, Lim 1000 p

section
variable {w0 w w' : World} {B g N N' : Nat} {kind : Int} {kids : List Pt} {K : Option Addr} {kc : Nat}
theorem KS.size (h : KS w0 B g N kind kids K kc w) : w0.heap.size + 2 ≤ w.heap.size := by have := h.p.lt; omega
theorem KS.g_lt (h : KS w0 B g N kind kids K kc w) : g < w0.heap.size := by have := h.rd.ltB; have := h.hB; omega
theorem KS.touch (h : KS w0 B g N kind kids K kc w) (hg : w.grownBy w' (some g)) (hr : Rd w' B g N') : KS w0 B g N' kind kids K kc w' :=
  ⟨own_touch h.p hg (by have := h.g_lt; omega), own_touch h.r hg (by have := h.g_lt; omega), h.k.keep fun b hb hl => hg.block b hl (fun e => by injection e with e; have := h.g_lt; omega), hr, only_trans h.fr hg, h.hB, h.lim⟩
theorem KS.alloc (h : KS w0 B g N kind kids K kc w) (o : Obj) : KS w0 B g N kind kids K kc (w.alloc o) :=
  ⟨h.p.alloc o, h.r.alloc o, h.k.keep fun b hb hl => Below.heap_alloc w o b hl, h.rd.alloc (by have := h.size; have := h.hB; omega) o, only_alloc h.fr o, h.hB, h.lim⟩
theorem KS.mono (h : KS w0 B g N kind kids K kc w) (hN : N ≤ N') : KS w0 B g N' kind kids K kc w := ⟨h.p, h.r, h.k, h.rd.mono (Nat.le_refl _) hN, h.fr, h.hB, h.lim⟩
theorem KS.start (hr : Rd w B g N) (hB : B ≤ w.heap.size) (kind : Int) :
    KS w B g N kind [] none 0 ((w.alloc (.cells #[.int .i64 0, .string ⟨#[]⟩, .slice none 0 0, .slice none 0 0, .slice none 0 0, .int .i64 0, .int .i64 0] 88)).alloc (.cells #[.int .i64 kind, .string ⟨#[]⟩, .slice none 0 0, .slice none 0 0, .slice none 0 0, .int .i64 0, .int .i64 0] 88)) :=
  ⟨by simpa [c7] using Own.new (w.alloc (.cells #[.int .i64 0, .string ⟨#[]⟩, .slice none 0 0, .slice none 0 0, .slice none 0 0, .int .i64 0, .int .i64 0] 88)) 88 #[.int .i64 kind, .string ⟨#[]⟩, .slice none 0 0, .slice none 0 0, .slice none 0 0, .int .i64 0, .int .i64 0],
    by simpa [c7] using (Own.new w 88 #[.int .i64 0, .string ⟨#[]⟩, .slice none 0 0, .slice none 0 0, .slice none 0 0, .int .i64 0, .int .i64 0]).alloc _, KR.nil _ _ _,
    (hr.alloc hB _).alloc (by simp; omega) _, only_alloc (only_alloc (only_of_below (Below.refl _ _) (Nat.le_refl _) _) _) _, hB, by simp⟩
/-- What stays where the kids' row has grown. -/
theorem KS.kept (h : KS w0 B g N kind kids K kc w) (hg : w.grownBy w' (Value.slice K kids.length kc).ownBlock) :
    Own w' (w0.heap.size + 1) 88 (c7 kind ⟨#[]⟩ none 0 0 none 0 0 K kids.length kc 0 0) ∧ Own w' w0.heap.size 88 (c7 0 ⟨#[]⟩ none 0 0 none 0 0 none 0 0 0 0) ∧ Rd w' B g N ∧ w0.grownBy w' (some g) := by
  have hs := h.size
  have hb := h.hB
  have hr : ∀ k, (Value.slice K kids.length kc).ownBlock = some k → w0.heap.size + 2 ≤ k := fun k hk => (h.k.lt k hk).1
  exact ⟨(hg.block _ h.p.lt (fun e => by have := hr _ e.symm; omega)).trans h.p, (hg.block _ h.r.lt (fun e => by have := hr _ e.symm; omega)).trans h.r, h.rd.grown (by omega) hg (fun k hk => by have := hr k hk; omega), only_new h.fr hg (fun k hk => by have := hr k hk; omega)⟩
/-- Other kids are stored. -/
theorem KS.set {kids' : List Pt} {K' : Option Addr} {kc' : Nat} (h : Own w (w0.heap.size + 1) 88 (c7 kind ⟨#[]⟩ none 0 0 none 0 0 K kids.length kc 0 0)) (hr : Own w w0.heap.size 88 (c7 0 ⟨#[]⟩ none 0 0 none 0 0 none 0 0 0 0)) (hrd : Rd w B g N) (hf : w0.grownBy w (some g)) (hB : B ≤ w0.heap.size)
    (hk : KR w (w0.heap.size + 2) (fun _ => True) (.slice K' kids'.length kc') kids') (hl : ∀ p ∈ kids', Lim 1000 p) : KS w0 B g N kind kids' K' kc' (w.setCell ⟨w0.heap.size + 1, 4, none⟩ (.slice K' kids'.length kc')) :=
  ⟨h.set_ 4 _, hr.far (by simp) _, hk.keep fun b hb _ => Below.heap_setCell _ _ _ b (by simp only; omega), hrd.setCell (by simp only; omega) _,
    ⟨hf.os, hf.tape, hf.output, by simpa [World.setCell] using hf.size, fun i hi hne => (Below.heap_setCell _ _ _ i (by simp only; omega)).trans (hf.block i hi hne)⟩, hB, hl⟩
end

/-- What a new row of cells holds. -/
theorem new_cells (w : World) (cs : List Value) (t : TypeId) : ∀ j u, cs[j]? = some u → (w.alloc (.cells cs.toArray t)).cell? ((⟨w.heap.size, 0, none⟩ : Addr).add j) = some u := by
  intro j u hu
  have e1 : (Addr.add ⟨w.heap.size, 0, none⟩ j) = ⟨w.heap.size, j, none⟩ := by unfold Addr.add; split <;> simp_all
  rw [e1, (Own.new w t cs.toArray).cell]
  simpa using hu

/-- A row of parts as what is appended. -/
theorem src_of {w : World} {s n kc : Nat} {K : Option Addr} {css : List Value} (hr : w.ownsRow s 88 7 (.slice K n kc) n css) : (K = none → n = 0) ∧ ∀ ad, K = some ad → ∀ j u, css[j]? = some u → w.cell? (ad.add j) = some u := by
  rcases hr.2 with ⟨e, h0⟩ | ⟨g, cap, cur, e, _⟩
  · injection e with e1 e2 e3
    subst e1 e2
    exact ⟨fun _ => rfl, fun ad h => by cases h⟩
  · injection e with e1 e2 e3
    subst e1
    refine ⟨fun h => (nomatch h), fun ad h j u hu => ?_⟩
    injection h with h
    subst h
    exact hr.cells rfl j u hu
theorem ones_of {w : World} {s : Nat} {v : Value} {F : Nat → Prop} {kids : List Pt} {css : List Value} (hr : w.ownsRow s 88 7 v kids.length css) (hk : ∀ i (h : i < kids.length), PtC w F (sev css i) kids[i]) : ∀ u ∈ css, u.oneCell' = true := by
  intro u hu
  obtain ⟨q, hq, rfl⟩ := List.getElem_of_mem hu
  have hl := hr.1
  have h1 : q / 7 < kids.length := by omega
  refine (hk (q / 7) h1).ones _ ?_
  apply List.mem_of_getElem? (i := q % 7)
  rw [sev_get (by omega), show q / 7 * 7 + q % 7 = q by omega]
  exact List.getElem?_eq_getElem hq
theorem Lim.kid {M : Nat} {k : Int} {t : ByteArray} {lo hi : List Int} {kids : List Pt} {mn mx : Int} (h : Lim M (.mk k t lo hi kids mn mx)) : ∀ p ∈ kids, Lim M p := by
  cases h with
  | mk _ _ _ _ _ _ _ _ _ _ _ h => exact h
theorem KS.more {w0 W w' : World} {B g N : Nat} {kind : Int} {kids ps : List Pt} {K : Option Addr} {kc : Nat} {v' : Value} {css cs : List Value} (h : KS w0 B g N kind kids K kc W) (hr : W.ownsRow (w0.heap.size + 2) 88 7 (.slice K kids.length kc) kids.length css) (hk : ∀ i (h : i < kids.length), PtC W (fun b => w0.heap.size + 2 ≤ b ∧ (Value.slice K kids.length kc).ownBlock ≠ some b ∧ True) (sev css i) kids[i])
    (hp : ∀ i (h : i < ps.length), PtC W (fun b => w0.heap.size + 2 ≤ b ∧ (Value.slice K kids.length kc).ownBlock ≠ some b ∧ True) (sev cs i) ps[i]) (hl : ∀ p ∈ ps, Lim 1000 p)
    (ho : w'.ownsRow (w0.heap.size + 2) 88 7 v' (kids.length + ps.length) (css ++ cs)) (hg : W.grownBy w' (Value.slice K kids.length kc).ownBlock) (hv : v'.ownBlock = (Value.slice K kids.length kc).ownBlock ∨ v'.ownBlock = some W.heap.size) :
    ∃ K' kc', v' = .slice K' (kids ++ ps).length kc' ∧ KS w0 B g N kind (kids ++ ps) K' kc' (w'.setCell ⟨w0.heap.size + 1, 4, none⟩ (.slice K' (kids ++ ps).length kc')) := by
  have hK := KR.app hr hk hp ho hg hv
  obtain ⟨K', kc', rfl⟩ := hK.form
  obtain ⟨h1, h2, h3, h4⟩ := h.kept hg
  exact ⟨K', kc', rfl, KS.set h1 h2 h3 h4 h.hB hK fun p hp => (List.mem_append.1 hp).elim (h.lim p) (hl p)⟩

def KidsPost (kind : Int) (w : World) (B g N d : Nat) (e : Ending) (w' : World) : Prop :=
  ∃ (kids : List Pt) (K : Option Addr) (kc : Nat), e = .returned (.agg (c7 kind ⟨#[]⟩ none 0 0 none 0 0 K kids.length kc 0 0).toArray) ∧ KR w' w.heap.size (fun _ => True) (.slice K kids.length kc) kids ∧ (∀ p ∈ kids, Lim 1000 p) ∧
    kids.length ≤ 3 ^ d ∧ (kind = 5 → 2 ≤ kids.length) ∧ Rd w' B g (N + cost d - 10) ∧ w.grownBy w' (some g)

theorem KS.done {w0 w : World} {B g M N d : Nat} {kind : Int} {kids : List Pt} {K : Option Addr} {kc : Nat} (h : KS w0 B g M kind kids K kc w) (hM : M ≤ N + cost d - 10) (hl : kids.length ≤ 3 ^ d) (h5 : kind = 5 → 2 ≤ kids.length) :
    KidsPost kind w0 B g N d (.returned (.agg (c7 kind ⟨#[]⟩ none 0 0 none 0 0 K kids.length kc 0 0).toArray))
      (((((((w.setCell ⟨w0.heap.size, 0, none⟩ (.int .i64 kind)).setCell ⟨w0.heap.size, 1, none⟩ (.string ⟨#[]⟩)).setCell ⟨w0.heap.size, 2, none⟩ (.slice none 0 0)).setCell ⟨w0.heap.size, 3, none⟩ (.slice none 0 0)).setCell ⟨w0.heap.size, 4, none⟩ (.slice K kids.length kc)).setCell ⟨w0.heap.size, 5, none⟩ (.int .i64 0)).setCell ⟨w0.heap.size, 6, none⟩ (.int .i64 0)) := by
  have hs := h.size
  refine ⟨kids, K, kc, rfl, (h.k.keep fun b hb _ => seven_other _ _ _ _ _ _ _ b (by omega)).mono (by omega) fun _ _ _ h => h, h.lim, hl, h5, ?_, ?_⟩
  · exact (h.rd.keep fun b hb => seven_other _ _ _ _ _ _ _ b (by have := h.hB; omega)).mono (Nat.le_refl _) hM
  · exact seven_grown h.fr (Nat.le_refl _) _ _ _ _ _ _ _

set_option maxRecDepth 100000 in
set_option maxHeartbeats 2000000 in
theorem kids_step {d : Nat} (IH : PartD d) (hd : d ≤ 4) (kind : Int) (hk : kind = 4 ∨ kind = 5) (B g N : Nat) (A : Option Addr) (c : Nat) (ns : List ByteArray) (w : World) (hrd : Rd w B g N) (hB : B ≤ w.heap.size) (hN : N + cost (d + 1) ≤ 40005) (hnm : Nm w g A ns) :
    Calls Try.prog 73 #[.pointer (some ⟨g, 0, none⟩), .slice A ns.length c, .int .i64 ((d : Int) + 1), .int .i64 kind] w (KidsPost kind w B g N (d + 1)) := by
  obtain ⟨i0, hi0, hz0, hz1, hz2⟩ := info_parts infoY31
  have HI := Lib.hid (And.intro hi0 (And.intro hz0 (And.intro hz1 hz2)))
  clear hi0 hz0 hz1 hz2
  have HL := KS.start hrd hB kind
  have HNM := Lib.hid hnm
  have HIH := Lib.hid IH
  rw [cost_succ] at hN
  have hc1 := cost_one d
  have HKD := Lib.hid hk
  clear hrd hnm IH hk
  go_enter Try.func73, Try.ntmps73
  go_wp2_with fail
  refine (pick_any B g N 2 _ HL.rd (by omega) (by omega) (by omega)).mono ?_
  rintro e w1 ⟨v, rfl, hv0, hv1, hrd1, hg1⟩
  replace HL := HL.touch hg1 hrd1
  clear hrd1 hg1
  have hv2 : v ≤ 1 := by rcases hv1 with h | h <;> omega
  go_wp2
  go_loopw [10] (fun c wr => ∃ (kids : List Pt) (K : Option Addr) (kc j : Nat), c = .int .i64 j ∧ j ≤ 3 ∧ Hid (kids.length ≤ (3 - j) * 3 ^ d) ∧ Hid (kind = 5 → 2 ≤ kids.length + j) ∧ KS w B g (N + 1 + cost d * (3 - j)) kind kids K kc wr) (fun c _ => (intOf c).toNat)
  case atStart => exact ⟨[], none, 0, (2 + v).toNat, by go_num, by omega, by show _ ≤ _; simp, fun _ => by simp; omega, HL.mono (by omega)⟩
  case round =>
    clear HL
    obtain ⟨kids, K, kc, j, rfl, hj, HLE, HGE, HL⟩ := hrel
    have hsz := HL.size
    have hcj : cost d * (3 - j) ≤ cost d * 3 := Nat.mul_le_mul_left _ (by omega)
    by_cases hj1 : 0 < j
    · have hj2 : (0 : Int) < (j : Int) := by omega
      have hcj2 : cost d * (3 - j) + cost d ≤ cost d * 3 := by rw [← Nat.mul_succ]; exact Nat.mul_le_mul_left _ (by omega)
      have HNM1 : Hid (Nm wr g A ns) := HNM.out.touch HL.fr
      have hdi : IntKind.i64.wrap ((d : Int) + 1 - 1) = (d : Int) := by rw [IntKind.wrap_i64]; omega
      have HC := Lib.hid (HIH.out B g (N + 1 + cost d * (3 - j)) A c ns wr HL.rd (by have := HL.hB; omega) (by omega) HNM1.out)
      go_wp2_with fail
      refine HC.out.mono ?_
      rintro e w2 ⟨pk, pt, plo, phi, pkids, pmn, pmx, PA, PC, PK, pa, pc, pkc, rfl, hT, hlim, hkl, h5, hrd2, hg2⟩
      clear hdi HC
      have hs2 := hg2.size
      have hkr := HL.k
      have HL2 := (HL.touch hg2 hrd2).alloc (.cells (c7 pk pt PA plo.length pa PC phi.length pc PK pkids.length pkc pmn pmx).toArray 88)
      have hlt2 : w.heap.size + 1 < w2.heap.size := by omega
      have HT := Lib.hid hT
      have HLM := Lib.hid hlim
      have HKL := Lib.hid hkl
      have H5 := Lib.hid h5
      have HKV : Hid (∀ b, (Value.slice K kids.length kc).ownBlock = some b → b < wr.heap.size) := fun b hb => (hkr.lt b hb).2
      clear hT hlim hkl h5 hg2 hrd2 hkr HL
      have p4 := (c7_cells HL2.p).2.2.2.2.1
      have x0 : (w2.alloc (.cells (c7 pk pt PA plo.length pa PC phi.length pc PK pkids.length pkc pmn pmx).toArray 88)).cell? ⟨w2.heap.size, 0, none⟩ = some (.int .i64 pk) := by simp [c7]
      have x1 : (w2.alloc (.cells (c7 pk pt PA plo.length pa PC phi.length pc PK pkids.length pkc pmn pmx).toArray 88)).cell? ⟨w2.heap.size, 1, none⟩ = some (.string pt) := by simp [c7]
      have x2 : (w2.alloc (.cells (c7 pk pt PA plo.length pa PC phi.length pc PK pkids.length pkc pmn pmx).toArray 88)).cell? ⟨w2.heap.size, 2, none⟩ = some (.slice PA plo.length pa) := by simp [c7]
      have x3 : (w2.alloc (.cells (c7 pk pt PA plo.length pa PC phi.length pc PK pkids.length pkc pmn pmx).toArray 88)).cell? ⟨w2.heap.size, 3, none⟩ = some (.slice PC phi.length pc) := by simp [c7]
      have x4 : (w2.alloc (.cells (c7 pk pt PA plo.length pa PC phi.length pc PK pkids.length pkc pmn pmx).toArray 88)).cell? ⟨w2.heap.size, 4, none⟩ = some (.slice PK pkids.length pkc) := by simp [c7]
      have x5 : (w2.alloc (.cells (c7 pk pt PA plo.length pa PC phi.length pc PK pkids.length pkc pmn pmx).toArray 88)).cell? ⟨w2.heap.size, 5, none⟩ = some (.int .i64 pmn) := by simp [c7]
      have x6 : (w2.alloc (.cells (c7 pk pt PA plo.length pa PC phi.length pc PK pkids.length pkc pmn pmx).toArray 88)).cell? ⟨w2.heap.size, 6, none⟩ = some (.int .i64 pmx) := by simp [c7]
      simp only [c7] at x0 x1 x2 x3 x4 x5 x6 p4 HL2 ⊢
      go_upto_region 6 with fail
      generalize hW2 : w2.alloc (.cells #[.int .i64 pk, .string pt, .slice PA plo.length pa, .slice PC phi.length pc, .slice PK pkids.length pkc, .int .i64 pmn, .int .i64 pmx] 88) = W2 at *
      have HTW : Hid (TopP W2 wr.heap.size plo phi pkids PA PC PK pa pc pkc) := by rw [← hW2]; exact HT.out.keep fun b _ hl => Below.heap_alloc w2 _ b hl
      have hlt3 : w.heap.size + 2 ≤ wr.heap.size := by omega
      have HSW : Hid (wr.heap.size ≤ W2.heap.size) := by show _ ≤ _; rw [← hW2, World.size_alloc]; omega
      have HWF : Hid (∀ b, wr.heap.size ≤ b → w.heap.size + 2 ≤ b ∧ (Value.slice K kids.length kc).ownBlock ≠ some b ∧ True) := fun b hb => ⟨by omega, fun e => by have := HKV.out b e; omega, trivial⟩
      obtain ⟨css, hr, hkk⟩ := HL2.k
      have HKK := Lib.hid hkk
      have hsW : w.heap.size + 2 ≤ W2.heap.size := HL2.size
      have HPW : Hid (3 * 3 ^ d ≤ 243) := by
        show _ ≤ _
        have : 3 ^ d ≤ 3 ^ 4 := Nat.pow_le_pow_right (by decide) hd
        omega
      have hklen : kids.length ≤ 243 := by
        have h1 := HLE.out
        have h2 := HPW.out
        have h3 : (3 - j) * 3 ^ d ≤ 3 * 3 ^ d := Nat.mul_le_mul_right _ (by omega)
        omega
      have hplen : pkids.length ≤ 243 := by have h1 := HKL.out; have h2 := HPW.out; omega
      have HRW := Lib.hid hr
      clear hW2 hkk hr
      by_cases hkind : pk = kind
      · have hke : (pk == kind) = true := by rw [hkind]; simp
        have HKE := Lib.hid hkind
        clear hkind
        obtain ⟨css', hr', hkk'⟩ := HTW.out.ks
        have HKK' := Lib.hid hkk'
        have HRW' := Lib.hid hr'
        clear hkk' hr' x1 x2 x3 x5 x6
        go_wp2_with (at_builtin; refine wpList_append_any _ rfl _ _ 86 rfl (w.heap.size + 2) 88 i0 _ 7 112 Try.underlying86 HI.out.1 HI.out.2.1 HI.out.2.2.1 HI.out.2.2.2 rfl (by decide) _ _ css rfl HRW.out PK pkids.length pkc css' rfl (src_of HRW'.out).1 HRW'.out.1 (src_of HRW'.out).2 (ones_of HRW'.out HKK'.out) (by unfold maxLen; omega) (by omega) (by omega) ?_)
        intro v' w5 hown hgrow hat
        have HK5 := (HL2.kept hgrow)
        have k4 := (c7_cells HK5.1).2.2.2.2.1
        have f4 := HK5.1.frozen 4
        obtain ⟨K', kc', rfl, HL5⟩ := HL2.more HRW.out HKK.out (fun i hi => (HKK'.out i hi).mono fun b hb _ => HWF.out b hb.1) HLM.out.kid hown hgrow hat
        have HLE5 : Hid ((kids ++ pkids).length ≤ (3 - (j - 1)) * 3 ^ d) := by
          show _ ≤ _
          have e : 3 - (j - 1) = (3 - j) + 1 := by omega
          rw [e, Nat.add_mul, List.length_append]
          have h1 := HLE.out
          have h2 := HKL.out
          omega
        have HGE5 : Hid (kind = 5 → 2 ≤ (kids ++ pkids).length + (j - 1)) := fun e => by
          have h1 := HGE.out e
          have h2 := H5.out (HKE.out.trans e)
          rw [List.length_append]
          omega
        clear HL2 HK5 hown hgrow hat p4
        generalize kids ++ pkids = kids5 at *
        go_wp2
        go_roundw
        case rel => exact ⟨kids5, K', kc', j - 1, by go_num, by omega, HLE5, HGE5, HL5.mono (by
          have e : 3 - (j - 1) = (3 - j) + 1 := by omega
          rw [e, Nat.mul_add]
          omega)⟩
        case measure => simp [intOf]; omega
      · have hke : (pk == kind) = false := by simpa using hkind
        clear hkind
        have HPT : Hid (PtC W2 (fun b => wr.heap.size ≤ b) (c7 pk pt PA plo.length pa PC phi.length pc PK pkids.length pkc pmn pmx) (.mk pk pt plo phi pkids pmn pmx)) := HTW.out.ptC pk pt pmn pmx
        have hbox : ∀ b, b < W2.heap.size → (W2.alloc (.cells (c7 pk pt PA plo.length pa PC phi.length pc PK pkids.length pkc pmn pmx).toArray 88)).heap[b]? = W2.heap[b]? := fun b hb => Below.heap_alloc W2 _ b hb
        have HBX := Lib.hid hbox
        have HLB := HL2.alloc (.cells (c7 pk pt PA plo.length pa PC phi.length pc PK pkids.length pkc pmn pmx).toArray 88)
        have HRB := Lib.hid (HRW.out.alloc (.cells (c7 pk pt PA plo.length pa PC phi.length pc PK pkids.length pkc pmn pmx).toArray 88))
        have HLT : Hid (w.heap.size + 1 < W2.heap.size) := by show _ < _; omega
        clear hbox
        simp only [c7] at HLB HRB
        go_wp2_with (at_builtin; refine wpList_append_any _ rfl _ _ 86 rfl (w.heap.size + 2) 88 i0 _ 7 112 Try.underlying86 HI.out.1 HI.out.2.1 HI.out.2.2.1 HI.out.2.2.2 rfl (by decide) _ _ css rfl HRB.out (some ⟨W2.heap.size, 0, none⟩) 1 1 (c7 pk pt PA plo.length pa PC phi.length pc PK pkids.length pkc pmn pmx) rfl (fun h => nomatch h) rfl (fun ad h => by injection h with h; subst h; exact new_cells W2 (c7 pk pt PA plo.length pa PC phi.length pc PK pkids.length pkc pmn pmx) 88) HPT.out.ones (by unfold maxLen; omega) (by omega) (by simp; omega) ?_)
        intro v' w5 hown hgrow hat
        have HK5 := (HLB.kept hgrow)
        have k4 := (c7_cells HK5.1).2.2.2.2.1
        have f4 := HK5.1.frozen 4
        obtain ⟨K', kc', rfl, HL5⟩ := HLB.more (ps := [.mk pk pt plo phi pkids pmn pmx]) HRB.out (fun i hi => (HKK.out i hi).mv fun b _ hl => HBX.out b hl) (fun i hi => by
          have e : i = 0 := by simpa using hi
          subst e
          rw [sev_one rfl]
          exact (HPT.out.mono fun b hb _ => HWF.out b hb).mv fun b _ hl => HBX.out b hl) (fun p hp => by
          rw [List.mem_singleton] at hp
          subst hp
          exact HLM.out) hown hgrow (by simpa using hat)
        have HLE5 : Hid ((kids ++ [Pt.mk pk pt plo phi pkids pmn pmx]).length ≤ (3 - (j - 1)) * 3 ^ d) := by
          show _ ≤ _
          have e : 3 - (j - 1) = (3 - j) + 1 := by omega
          have h3 : 0 < 3 ^ d := Nat.pow_pos (by decide)
          rw [e, Nat.add_mul, List.length_append]
          have h1 := HLE.out
          simp only [List.length_cons, List.length_nil]
          omega
        have HGE5 : Hid (kind = 5 → 2 ≤ (kids ++ [Pt.mk pk pt plo phi pkids pmn pmx]).length + (j - 1)) := fun e => by
          have h1 := HGE.out e
          rw [List.length_append]
          simp only [List.length_cons, List.length_nil]
          omega
        clear HL2 HLB HK5 hown hgrow hat p4 x0 x1 x2 x3 x4 x5 x6
        generalize kids ++ [Pt.mk pk pt plo phi pkids pmn pmx] = kids5 at *
        go_wp2
        go_roundw
        case rel => exact ⟨kids5, K', kc', j - 1, by go_num, by omega, HLE5, HGE5, HL5.mono (by
          have e : 3 - (j - 1) = (3 - j) + 1 := by omega
          rw [e, Nat.mul_add]
          omega)⟩
        case measure => simp [intOf]; omega
    · have hj2 : ¬ (0 : Int) < (j : Int) := by omega
      have j0 : j = 0 := by omega
      subst j0
      have HPW : Hid (3 * 3 ^ d ≤ 243) := by
        show _ ≤ _
        have : 3 ^ d ≤ 3 ^ 4 := Nat.pow_le_pow_right (by decide) hd
        omega
      have hklen : kids.length ≤ 243 := by
        have h1 := HLE.out
        have h2 := HPW.out
        omega
      have HFIN : Hid (kids.length ≤ 3 ^ (d + 1)) := by
        show _ ≤ _
        have := HLE.out
        rw [Nat.pow_succ]
        omega
      have HN : Hid (N + 1 + cost d * (3 - 0) + 1 ≤ N + cost (d + 1) - 10) := by
        show _ ≤ _
        rw [cost_succ]
        omega
      rcases HKD.out with hk4 | hk5
      · subst hk4
        go_wp2_with fail
        refine (pick_any B g _ 12 _ HL.rd (by omega) (by omega) (by omega)).mono ?_
        rintro e w3 ⟨x, rfl, hx0, hx1, hrd3, hg3⟩
        replace HL := HL.touch hg3 hrd3
        clear hrd3 hg3
        have hs3 := HL.size
        have HNIL := KS.set (kids' := []) (K' := none) (kc' := 0) HL.p HL.r HL.rd HL.fr HL.hB (KR.nil _ _ _) (by simp)
        simp only [List.length_nil] at HNIL
        have n4 := (c7_cells HL.p).2.2.2.2.1
        have g4 := HL.p.frozen 4
        by_cases hx : x = 0
        · have hxe : (x == 0) = true := by simp [hx]
          clear hx HL
          go_upto_region 11 with fail
          clear n4 g4
          generalize w3.setCell ⟨w.heap.size + 1, 4, none⟩ (.slice none 0 0) = W3 at *
          replace HL := HNIL
          obtain ⟨p0, p1, p2, p3, p4, p5, p6⟩ := c7_cells HL.p
          obtain ⟨r0, r1, r2, r3, r4, r5, r6⟩ := c7_cells HL.r
          have f0 := HL.r.frozen 0
          have f1 := HL.r.frozen 1
          have f2 := HL.r.frozen 2
          have f3 := HL.r.frozen 3
          have f4 := HL.r.frozen 4
          have f5 := HL.r.frozen 5
          have f6 := HL.r.frozen 6
          go_wp2
          obtain ⟨q0, q1, q2, q3, q4, q5, q6⟩ := c7_cells (seven_cell (k' := 4) (t' := ⟨#[]⟩) (A' := none) (la' := 0) (ca' := 0) (C' := none) (lb' := 0) (cb' := 0) (K' := none) (lk' := 0) (kc' := 0) (mn' := 0) (mx' := 0) HL.r)
          exact bodyPost_ret (v := .agg (c7 4 ⟨#[]⟩ none 0 0 none 0 0 none 0 0 0 0).toArray) (by simp [results, Try.results73, go_sem, q0, q1, q2, q3, q4, q5, q6, c7]) rfl (HL.done HN.out (by simp) (by simp))
        · have hxe : (x == 0) = false := by simpa using hx
          clear hx
          by_cases h1 : kids.length = 1
          · have hle : ((kids.length : Int) == 1) = true := by simp [h1]
            have hle2 : (kids.length == 1) = true := by simp [h1]
            clear h1 HL
            go_upto_region 11 with fail
            clear n4 g4
            generalize w3.setCell ⟨w.heap.size + 1, 4, none⟩ (.slice none 0 0) = W3 at *
            replace HL := HNIL
            obtain ⟨p0, p1, p2, p3, p4, p5, p6⟩ := c7_cells HL.p
            obtain ⟨r0, r1, r2, r3, r4, r5, r6⟩ := c7_cells HL.r
            have f0 := HL.r.frozen 0
            have f1 := HL.r.frozen 1
            have f2 := HL.r.frozen 2
            have f3 := HL.r.frozen 3
            have f4 := HL.r.frozen 4
            have f5 := HL.r.frozen 5
            have f6 := HL.r.frozen 6
            go_wp2
            obtain ⟨q0, q1, q2, q3, q4, q5, q6⟩ := c7_cells (seven_cell (k' := 4) (t' := ⟨#[]⟩) (A' := none) (la' := 0) (ca' := 0) (C' := none) (lb' := 0) (cb' := 0) (K' := none) (lk' := 0) (kc' := 0) (mn' := 0) (mx' := 0) HL.r)
            exact bodyPost_ret (v := .agg (c7 4 ⟨#[]⟩ none 0 0 none 0 0 none 0 0 0 0).toArray) (by simp [results, Try.results73, go_sem, q0, q1, q2, q3, q4, q5, q6, c7]) rfl (HL.done HN.out (by simp) (by simp))
          · have hle : ((kids.length : Int) == 1) = false := by rw [beq_eq_false_iff_ne]; omega
            have hle2 : (kids.length == 1) = false := by rw [beq_eq_false_iff_ne]; omega
            clear h1 HNIL
            go_upto_region 11 with fail
            clear n4 g4
            obtain ⟨p0, p1, p2, p3, p4, p5, p6⟩ := c7_cells HL.p
            obtain ⟨r0, r1, r2, r3, r4, r5, r6⟩ := c7_cells HL.r
            have f0 := HL.r.frozen 0
            have f1 := HL.r.frozen 1
            have f2 := HL.r.frozen 2
            have f3 := HL.r.frozen 3
            have f4 := HL.r.frozen 4
            have f5 := HL.r.frozen 5
            have f6 := HL.r.frozen 6
            go_wp2
            obtain ⟨q0, q1, q2, q3, q4, q5, q6⟩ := c7_cells (seven_cell (k' := 4) (t' := ⟨#[]⟩) (A' := none) (la' := 0) (ca' := 0) (C' := none) (lb' := 0) (cb' := 0) (K' := K) (lk' := kids.length) (kc' := kc) (mn' := 0) (mx' := 0) HL.r)
            exact bodyPost_ret (v := .agg (c7 4 ⟨#[]⟩ none 0 0 none 0 0 K kids.length kc 0 0).toArray) (by simp [results, Try.results73, go_sem, q0, q1, q2, q3, q4, q5, q6, c7]) rfl (HL.done HN.out HFIN.out (by simp))
      · subst hk5
        have hge : ¬ ((kids.length : Int) < 2) := by have := HGE.out rfl; omega
        have hge2 : ¬ (kids.length < 2) := by have := HGE.out rfl; omega
        obtain ⟨p0, p1, p2, p3, p4, p5, p6⟩ := c7_cells HL.p
        obtain ⟨r0, r1, r2, r3, r4, r5, r6⟩ := c7_cells HL.r
        have f0 := HL.r.frozen 0
        have f1 := HL.r.frozen 1
        have f2 := HL.r.frozen 2
        have f3 := HL.r.frozen 3
        have f4 := HL.r.frozen 4
        have f5 := HL.r.frozen 5
        have f6 := HL.r.frozen 6
        go_wp2
        obtain ⟨q0, q1, q2, q3, q4, q5, q6⟩ := c7_cells (seven_cell (k' := 5) (t' := ⟨#[]⟩) (A' := none) (la' := 0) (ca' := 0) (C' := none) (lb' := 0) (cb' := 0) (K' := K) (lk' := kids.length) (kc' := kc) (mn' := 0) (mx' := 0) HL.r)
        exact bodyPost_ret (v := .agg (c7 5 ⟨#[]⟩ none 0 0 none 0 0 K kids.length kc 0 0).toArray) (by simp [results, Try.results73, go_sem, q0, q1, q2, q3, q4, q5, q6, c7]) rfl (HL.done (by have := HN.out; omega) HFIN.out (fun _ => by omega))

end Go.Proofs.Ytkgiklmdpdakbaa

