/- A value that fits a schema, plain; the specification's l32Has. -/
import Derived.Test.YtkhcappjhefkjaaGreatDoorS6
import Derived.Test.YtkhcappjhefkjaaGreatDoorJ5
namespace Go.Proofs.YtkhcappjhefkjaaGreatDoor
open Go.RowKit
set_option linter.unusedVariables false

/-- Members fit: in the order of the schema's, none else, all that must be there. -/
def memP (R : Sc → Js → Prop) : List (ByteArray × Bool × Sc) → List (ByteArray × Js) → Prop
  | [], l => l = []
  | (_, m, _) :: r, [] => m = false ∧ memP R r []
  | (n, m, s) :: r, (a, v) :: l => (a = n ∧ R s v ∧ memP R r l) ∨ (a ≠ n ∧ m = false ∧ memP R r ((a, v) :: l))
def sZip (ns : List ByteArray) (ms : List Bool) (kids : List Sc) : List (ByteArray × Bool × Sc) := ns.zip (ms.zip kids)
def jZip (ns : List ByteArray) (kids : List Js) : List (ByteArray × Js) := ns.zip kids
/-- A value fits a schema of at most so many levels. -/
def FitD : Nat → Sc → Js → Prop
  | 0, _, _ => False
  | n + 1, .mk k mn mx ns ms kids, .mk jk jf jt jns jkids =>
    ((k = 1 ∨ k = 2 ∨ k = 3) ∧ jk = k) ∨
    (k = 4 ∧ jk = 4 ∧ mn ≤ (jt.size : Int) ∧ (jt.size : Int) ≤ mx) ∨
    (k = 5 ∧ jk = 5 ∧ (mn ≤ (jkids.length : Int) ∧ (jkids.length : Int) ≤ mx) ∧ ∀ q ∈ jkids, ∀ s ∈ kids.head?, FitD n s q) ∨
    (k = 6 ∧ jk = 6 ∧ memP (FitD n) (sZip ns ms kids) (jZip jns jkids)) ∨
    (k = 7 ∧ ∃ s ∈ kids, FitD n s (.mk jk jf jt jns jkids)) ∨
    (k = 8 ∧ jk = 4 ∧ jt ∈ ns)

/-- From the i-th member of the schema and the a-th of the value on. -/
def MemAt (R : Sc → Js → Prop) (ns : List ByteArray) (ms : List Bool) (kids : List Sc) (jns : List ByteArray) (jkids : List Js) (i a : Nat) : Prop := memP R ((sZip ns ms kids).drop i) ((jZip jns jkids).drop a)
section
variable {R : Sc → Js → Prop} {ns : List ByteArray} {ms : List Bool} {kids : List Sc} {jns : List ByteArray} {jkids : List Js} {i a : Nat}
theorem sZip_drop (h1 : ms.length = ns.length) (h2 : kids.length = ns.length) (hi : i < ns.length) : (sZip ns ms kids).drop i = (ns[i], ms[i]'(by omega), kids[i]'(by omega)) :: (sZip ns ms kids).drop (i + 1) := by
  have hl : i < (sZip ns ms kids).length := by unfold sZip; simp; omega
  rw [List.drop_eq_getElem_cons hl]
  congr 1
  simp [sZip]
theorem jZip_drop (h1 : jkids.length = jns.length) (ha : a < jns.length) : (jZip jns jkids).drop a = (jns[a], jkids[a]'(by omega)) :: (jZip jns jkids).drop (a + 1) := by
  have hl : a < (jZip jns jkids).length := by unfold jZip; simp; omega
  rw [List.drop_eq_getElem_cons hl]
  congr 1
  simp [jZip]
theorem jZip_end (h1 : jkids.length = jns.length) (ha : jns.length ≤ a) : (jZip jns jkids).drop a = [] := by
  apply List.drop_eq_nil_of_le; unfold jZip; simp; omega
theorem memAt_hit (h1 : ms.length = ns.length) (h2 : kids.length = ns.length) (h3 : jkids.length = jns.length) (hi : i < ns.length) (ha : a < jns.length) (he : jns[a] = ns[i]) :
    MemAt R ns ms kids jns jkids i a ↔ R (kids[i]'(by omega)) (jkids[a]'(by omega)) ∧ MemAt R ns ms kids jns jkids (i + 1) (a + 1) := by
  unfold MemAt
  rw [sZip_drop h1 h2 hi, jZip_drop h3 ha]
  simp only [memP, he, true_and, ne_eq, not_true, false_and, or_false]
theorem memAt_miss (h1 : ms.length = ns.length) (h2 : kids.length = ns.length) (h3 : jkids.length = jns.length) (hi : i < ns.length) (he : ∀ ha : a < jns.length, jns[a] ≠ ns[i]) :
    MemAt R ns ms kids jns jkids i a ↔ ms[i]'(by omega) = false ∧ MemAt R ns ms kids jns jkids (i + 1) a := by
  unfold MemAt
  rw [sZip_drop h1 h2 hi]
  by_cases ha : a < jns.length
  · have := he ha
    rw [jZip_drop h3 ha]
    simp only [memP, this, false_and, false_or, ne_eq, not_false_eq_true, true_and]
  · rw [jZip_end h3 (by omega)]
    simp only [memP]
theorem memAt_end (h1 : ms.length = ns.length) (h2 : kids.length = ns.length) (h3 : jkids.length = jns.length) (hi : ns.length ≤ i) (ha : a ≤ jns.length) : MemAt R ns ms kids jns jkids i a ↔ a = jns.length := by
  unfold MemAt
  have e : (sZip ns ms kids).drop i = [] := by apply List.drop_eq_nil_of_le; unfold sZip; simp; omega
  rw [e]
  simp only [memP, List.drop_eq_nil_iff]
  unfold jZip
  simp
  omega
end

set_option maxRecDepth 100000 in
set_option maxHeartbeats 1000000 in
theorem l32Has_any (ns : List ByteArray) (A : Option Addr) (ca : Nat) (x : ByteArray) (w : World) (hr : Row w A (strs ns)) (hm : ns.length ≤ 1048576) :
    Calls Tryz.prog 76 #[.slice A ns.length ca, .string x] w (BoolPost (x ∈ ns) w) := by
  have HR := Lib.hid hr
  clear hr
  go_enter Tryz.func76, Tryz.ntmps76
  go_wp2
  go_loopw [5] (fun i wr => ∃ j : Nat, j ≤ ns.length ∧ i = .int .i64 j ∧ Hid (∀ u (h : u < ns.length), u < j → ns[u] ≠ x) ∧ Below w.heap.size w wr) (fun i _ => ns.length - (intOf i).toNat)
  case atStart => exact ⟨0, Nat.zero_le _, rfl, fun u _ hu => by omega, Below.refl _ _⟩
  case round =>
    obtain ⟨j, hj, rfl, HU, hb⟩ := hrel
    by_cases hlt : j < ns.length
    · have hlt' : (j : Int) < (ns.length : Int) := by omega
      obtain ⟨b, off, rfl, hc⟩ := (HR.out.keep hb).str hlt
      have HUJ : Hid (ns[j] ≠ x → ∀ u (h : u < ns.length), u < j + 1 → ns[u] ≠ x) := fun h1 u hu huj => by
        rcases Nat.lt_succ_iff_lt_or_eq.1 huj with h3 | h3
        · exact HU.out u hu h3
        · subst h3; exact h1
      have HM := Lib.hid (List.getElem_mem hlt)
      generalize ns[j] = s at *
      by_cases g : s = x
      · have g' : (s.toList == x.toList) = true := by rw [g]; simp
        have HT : Hid (x ∈ ns) := by show _ ∈ _; rw [← g]; exact HM.out
        clear g HU HUJ
        go_wp2
        go_ret
        exact ⟨true, rfl, iffT HT.out, hb⟩
      · have g' : (s.toList == x.toList) = false := str_ne g
        have HU2 := Lib.hid (HUJ.out g)
        clear g HU HUJ
        go_wp2
        go_roundw
        case rel => exact ⟨j + 1, by omega, by go_num, HU2, hb⟩
        case measure => simp [intOf]; omega
    · have hlt' : ¬ (j : Int) < (ns.length : Int) := by omega
      have HF : Hid (¬ x ∈ ns) := fun h => by
        obtain ⟨u, hu, e⟩ := List.getElem_of_mem h
        exact HU.out u hu (by omega) e
      go_wp2
      go_ret
      exact ⟨false, rfl, iffF HF.out, hb⟩

end Go.Proofs.YtkhcappjhefkjaaGreatDoor

/- The specification's l32Members. (written by gen_g1.py) -/
namespace Go.Proofs.YtkhcappjhefkjaaGreatDoor
open Go.RowKit
set_option linter.unusedVariables false

/-- l32Fits, of schemas that are at most so high. -/
def FiS (n : Nat) : Prop := ∀ (k mn mx : Int) (ns : List ByteArray) (ms : List Bool) (kids : List Sc) (A M KA : Option Addr) (ca ma kc B0 : Nat) (jk : Int) (jf : Bool) (jt : ByteArray) (jns : List ByteArray) (jkids : List Js) (jA jK : Option Addr) (jca jkc B1 : Nat) (w : World), htS kids + 1 ≤ n → ScV w B0 ns ms kids A M KA → LimS 1048576 (.mk k mn mx ns ms kids) → SokP (.mk k mn mx ns ms kids) → JsV w B1 jns jkids jA jK → LimJ 1048576 (.mk jk jf jt jns jkids) → JokP (.mk jk jf jt jns jkids) →
  Calls Tryz.prog 47 #[.agg #[.int .i64 k, .int .i64 mn, .int .i64 mx, .slice A ns.length ca, .slice M ms.length ma, .slice KA kids.length kc], .agg #[.int .i64 jk, .bool jf, .string jt, .slice jA jns.length jca, .slice jK jkids.length jkc]] w (BoolPost (FitD n (.mk k mn mx ns ms kids) (.mk jk jf jt jns jkids)) w)

theorem Row.bol' {w : World} {A : Option Addr} {ms : List Bool} (h : Row w A (bols ms)) {i : Nat} (hi : i < ms.length) : ∃ b off, A = some ⟨b, off, none⟩ ∧ w.cell? ⟨b, off + i, none⟩ = some (.bool ms[i]) := by
  rcases h with h | ⟨b, off, hA, hc⟩
  · have h1 : (bols ms).length = ms.length := by simp
    rw [h] at h1; simp at h1; omega
  · exact ⟨b, off, hA, by have := hc i (by simpa using hi); simpa [bols] using this⟩
theorem c5_get {w : World} {P : Nat} {k : Int} {f : Bool} {t : ByteArray} {A K : Option Addr} {la ca lk kc : Nat} (h : Own w P 42 (c5 k f t A la ca K lk kc)) :
    w.cell? ⟨P, 0, none⟩ = some (.int .i64 k) ∧ w.cell? ⟨P, 1, none⟩ = some (.bool f) ∧ w.cell? ⟨P, 2, none⟩ = some (.string t) ∧ w.cell? ⟨P, 3, none⟩ = some (.slice A la ca) ∧ w.cell? ⟨P, 4, none⟩ = some (.slice K lk kc) :=
  ⟨by rw [h.cell]; rfl, by rw [h.cell]; rfl, by rw [h.cell]; rfl, by rw [h.cell]; rfl, by rw [h.cell]; rfl⟩

set_option maxRecDepth 100000 in
set_option maxHeartbeats 8000000 in
theorem memS {n : Nat} (IH : FiS n) (k mn mx : Int) (ns : List ByteArray) (ms : List Bool) (kids : List Sc) (A M KA : Option Addr) (ca ma kc B0 : Nat) (jk : Int) (jf : Bool) (jt : ByteArray) (jns : List ByteArray) (jkids : List Js) (jA jK : Option Addr) (jca jkc B1 : Nat) (w : World) (hh : htS kids ≤ n) (hv : ScV w B0 ns ms kids A M KA) (hls : ∀ p ∈ kids, LimS 1048576 p) (hok : ∀ p ∈ kids, SokP p) (hns : ns.length ≤ 1048576) (hvj : JsV w B1 jns jkids jA jK) (hlj : ∀ p ∈ jkids, LimJ 1048576 p) (hokj : ∀ p ∈ jkids, JokP p) (hjns : jns.length ≤ 1048576) (h1 : ms.length = ns.length) (h2 : kids.length = ns.length) (h3 : jkids.length = jns.length) :
    Calls Tryz.prog 77 #[.agg #[.int .i64 k, .int .i64 mn, .int .i64 mx, .slice A ns.length ca, .slice M ms.length ma, .slice KA kids.length kc], .agg #[.int .i64 jk, .bool jf, .string jt, .slice jA jns.length jca, .slice jK jkids.length jkc]] w (BoolPost (MemAt (FitD n) ns ms kids jns jkids 0 0) w) := by
  obtain ⟨Q, hQ⟩ : ∃ Q : Prop, Q ↔ MemAt (FitD n) ns ms kids jns jkids 0 0 := ⟨_, Iff.rfl⟩
  rw [show MemAt (FitD n) ns ms kids jns jkids 0 0 = Q from (propext hQ).symm]
  have HQ := Lib.hid hQ
  obtain ⟨W0, hW0⟩ : ∃ W0, (w.alloc (.cells #[.int .i64 k, .int .i64 mn, .int .i64 mx, .slice A ns.length ca, .slice M ms.length ma, .slice KA kids.length kc] 31)).alloc (.cells #[.int .i64 jk, .bool jf, .string jt, .slice jA jns.length jca, .slice jK jkids.length jkc] 42) = W0 := ⟨_, rfl⟩
  have HBX : Hid (Below w.heap.size w W0) := by rw [← hW0]; exact (below_box _).alloc (by simp) _
  have HOS : Hid (Own W0 w.heap.size 31 (c6 k mn mx A ns.length ca M ms.length ma KA kids.length kc)) := by rw [← hW0]; exact (Own.new w 31 #[.int .i64 k, .int .i64 mn, .int .i64 mx, .slice A ns.length ca, .slice M ms.length ma, .slice KA kids.length kc]).alloc _
  have HOJ : Hid (Own W0 (w.heap.size + 1) 42 (c5 jk jf jt jA jns.length jca jK jkids.length jkc)) := by
    rw [← hW0]
    have := Own.new (w.alloc (.cells #[.int .i64 k, .int .i64 mn, .int .i64 mx, .slice A ns.length ca, .slice M ms.length ma, .slice KA kids.length kc] 31)) 42 #[.int .i64 jk, .bool jf, .string jt, .slice jA jns.length jca, .slice jK jkids.length jkc]
    rw [World.size_alloc] at this
    exact this
  have HV := Lib.hid (hv.keep HBX.out)
  have HVJ := Lib.hid (hvj.keep HBX.out)
  have HI := Lib.hid IH
  have HH := Lib.hid hh
  have HLS := Lib.hid hls
  have HOK := Lib.hid hok
  have HLJ := Lib.hid hlj
  have HOKJ := Lib.hid hokj
  have HE := Lib.hid (And.intro h1 (And.intro h2 h3))
  have HW := Lib.hid hW0
  clear hQ hW0 hv hvj IH hh hls hok hlj hokj h1 h2 h3
  go_enter Tryz.func77, Tryz.ntmps77
  go_upto_region 1 with fail
  rw [HW.out]
  clear HW
  go_wp2
  go_loopw [5, 6] (fun at_ i wr => ∃ a j : Nat, at_ = .int .i64 a ∧ i = .int .i64 j ∧ j ≤ ns.length ∧ a ≤ jns.length ∧ Hid (Q ↔ MemAt (FitD n) ns ms kids jns jkids j a) ∧ Hid (Below W0.heap.size W0 wr)) (fun _ i _ => ns.length - (intOf i).toNat)
  case atStart => exact ⟨0, 0, rfl, rfl, by omega, by omega, HQ, Below.refl _ _⟩
  case round =>
    clear HQ
    obtain ⟨a, i, rfl, rfl, hi, ha, HQ, HB⟩ := hrel
    obtain ⟨p0, p1, p2, p3, p4, p5⟩ := c6_get (HOS.out.keep HB.out)
    obtain ⟨q0, q1, q2, q3, q4⟩ := c5_get (HOJ.out.keep HB.out)
    have pl := (HOS.out.keep HB.out).lt
    have ql := (HOJ.out.keep HB.out).lt
    by_cases hin : i < ns.length
    · have hin' : (i : Int) < (ns.length : Int) := by omega
      have hims : i < ms.length := by have := HE.out.1; omega
      have hims' : (i : Int) < (ms.length : Int) := by omega
      have hik : i < kids.length := by have := HE.out.2.1; omega
      have hik' : (i : Int) < (kids.length : Int) := by omega
      obtain ⟨b3, off3, rfl, e3⟩ := (HV.out.a.keep HB.out).str hin
      obtain ⟨b4, off4, rfl, e4⟩ := (HV.out.m.keep HB.out).bol' hims
      by_cases hit : ∃ h : a < jns.length, jns[a] = ns[i]
      · obtain ⟨han, he⟩ := hit
        have han' : (a : Int) < (jns.length : Int) := by omega
        have hak : a < jkids.length := by have := HE.out.2.2; omega
        have hak' : (a : Int) < (jkids.length : Int) := by omega
        have HHIT := Lib.hid (memAt_hit (R := FitD n) HE.out.1 HE.out.2.1 HE.out.2.2 hin han he)
        obtain ⟨b7, off7, rfl, e7⟩ := (HVJ.out.a.keep HB.out).str han
        obtain ⟨b6, off6, rfl, hp⟩ := (HV.out.k.keep HB.out).at_ hik
        obtain ⟨b5, off5, rfl, hq⟩ := (HVJ.out.k.keep HB.out).at_ hak
        have hm1 := List.getElem_mem hik
        have hm2 := List.getElem_mem hak
        have hlim := HLS.out _ hm1
        have hlimj := HLJ.out _ hm2
        have hht := htS_mem hm1
        have ho1 := HOK.out _ hm1
        have ho2 := HOKJ.out _ hm2
        rw [he] at e7
        generalize ns[i] = nm at *
        generalize ms[i] = mu at *
        clear hm1 hm2 he
        generalize kids[i] = p at *
        generalize jkids[a] = q at *
        obtain ⟨pk, pmn, pmx, pns, pms, pkids⟩ := p
        obtain ⟨qk, qf, qt, qns, qkids⟩ := q
        rw [htS_mk] at hht
        obtain ⟨PA, PM, PK, pa, pm, pc, hc, hvp⟩ := hp.open_
        obtain ⟨c0, c1, c2, c3, c4, c5, cle⟩ := hc
        obtain ⟨QA, QK, qa, qc, hd, hvq⟩ := hq.open_
        obtain ⟨d0, d1, d2, d3, d4, dle⟩ := hd
        have HC : Hid (∀ W, Below wr.heap.size wr W → Calls Tryz.prog 47 #[.agg #[.int .i64 pk, .int .i64 pmn, .int .i64 pmx, .slice PA pns.length pa, .slice PM pms.length pm, .slice PK pkids.length pc], .agg #[.int .i64 qk, .bool qf, .string qt, .slice QA qns.length qa, .slice QK qkids.length qc]] W (BoolPost (FitD n (.mk pk pmn pmx pns pms pkids) (.mk qk qf qt qns qkids)) W)) := fun W hbW =>
          HI.out pk pmn pmx pns pms pkids PA PM PK pa pm pc B0 qk qf qt qns qkids QA QK qa qc B1 W (by have := HH.out; omega) (hvp.keep hbW) hlim ho1 (hvq.keep hbW) hlimj ho2
        have hne : (nm.toList == nm.toList) = true := by simp
        have HBR : Hid (Below W0.heap.size W0 wr) := HB
        clear hp hq hvp hvq hlim hlimj hht ho1 ho2 cle dle
        go_wp2
        go_quiet (fail)
        go_upto_region 6 with fail
        have HBD : Hid (Below wr.heap.size wr (wr.drewN nq)) := below_drewN (Below.refl _ _) _
        generalize wr.drewN nq = WD at *
        have HS : Hid (∀ X, Below wr.heap.size wr X → ((fun X => X.cell? ⟨w.heap.size, 5, none⟩ = some (.slice (some ⟨b6, off6, none⟩) kids.length kc) ∧ X.cell? ⟨b6, off6 + i * 6, none⟩ = some (.int .i64 pk) ∧ X.cell? ⟨b6, off6 + i * 6 + 1, none⟩ = some (.int .i64 pmn) ∧ X.cell? ⟨b6, off6 + i * 6 + 2, none⟩ = some (.int .i64 pmx) ∧ X.cell? ⟨b6, off6 + i * 6 + 3, none⟩ = some (.slice PA pns.length pa) ∧ X.cell? ⟨b6, off6 + i * 6 + 4, none⟩ = some (.slice PM pms.length pm) ∧ X.cell? ⟨b6, off6 + i * 6 + 5, none⟩ = some (.slice PK pkids.length pc) ∧ X.cell? ⟨w.heap.size + 1, 4, none⟩ = some (.slice (some ⟨b5, off5, none⟩) jkids.length jkc) ∧ X.cell? ⟨b5, off5 + a * 5, none⟩ = some (.int .i64 qk) ∧ X.cell? ⟨b5, off5 + a * 5 + 1, none⟩ = some (.bool qf) ∧ X.cell? ⟨b5, off5 + a * 5 + 2, none⟩ = some (.string qt) ∧ X.cell? ⟨b5, off5 + a * 5 + 3, none⟩ = some (.slice QA qns.length qa) ∧ X.cell? ⟨b5, off5 + a * 5 + 4, none⟩ = some (.slice QK qkids.length qc))) X) := fun X h => ⟨cell_keep h p5, cell_keep h c0, cell_keep h c1, cell_keep h c2, cell_keep h c3, cell_keep h c4, cell_keep h c5, cell_keep h q4, cell_keep h d0, cell_keep h d1, cell_keep h d2, cell_keep h d3, cell_keep h d4⟩
        clear p0 p1 p2 p3 p4 p5 q0 q1 q2 q3 q4 c0 c1 c2 c3 c4 c5 d0 d1 d2 d3 d4 e3 e4 e7
        refine wp_region_held_drew (S := (fun X => X.cell? ⟨w.heap.size, 5, none⟩ = some (.slice (some ⟨b6, off6, none⟩) kids.length kc) ∧ X.cell? ⟨b6, off6 + i * 6, none⟩ = some (.int .i64 pk) ∧ X.cell? ⟨b6, off6 + i * 6 + 1, none⟩ = some (.int .i64 pmn) ∧ X.cell? ⟨b6, off6 + i * 6 + 2, none⟩ = some (.int .i64 pmx) ∧ X.cell? ⟨b6, off6 + i * 6 + 3, none⟩ = some (.slice PA pns.length pa) ∧ X.cell? ⟨b6, off6 + i * 6 + 4, none⟩ = some (.slice PM pms.length pm) ∧ X.cell? ⟨b6, off6 + i * 6 + 5, none⟩ = some (.slice PK pkids.length pc) ∧ X.cell? ⟨w.heap.size + 1, 4, none⟩ = some (.slice (some ⟨b5, off5, none⟩) jkids.length jkc) ∧ X.cell? ⟨b5, off5 + a * 5, none⟩ = some (.int .i64 qk) ∧ X.cell? ⟨b5, off5 + a * 5 + 1, none⟩ = some (.bool qf) ∧ X.cell? ⟨b5, off5 + a * 5 + 2, none⟩ = some (.string qt) ∧ X.cell? ⟨b5, off5 + a * 5 + 3, none⟩ = some (.slice QA qns.length qa) ∧ X.cell? ⟨b5, off5 + a * 5 + 4, none⟩ = some (.slice QK qkids.length qc))) (by kernel_rfl) ?_ (fun hHeld => ?_)
        · exact HS.out _ HBD.out.drew
        (first
          | (refine held_take (i := 0) (v := ?_) rfl (by kernel_rfl) (by kernel_rfl) (by kernel_rfl) (fun _ _ _ h => h) (Or.inl ⟨rfl, ?_⟩) (by assumption) ?_; rotate_left; (intro X hSw; (try dsimp only at hSw); (go_simp <;> with_reducible rfl)))
          | (refine held_take (i := 0) (v := undef) rfl (by kernel_rfl) (by kernel_rfl) (by kernel_rfl) (fun _ _ _ h => h) (Or.inr ⟨rfl, rfl⟩) (by assumption) ?_)); simp only [Act.put, List.setIfInBounds_toArray, List.set_cons_zero, List.set_cons_succ]
        (first
          | (refine held_take (i := 1) (v := ?_) rfl (by kernel_rfl) (by kernel_rfl) (by kernel_rfl) (fun _ _ _ h => h) (Or.inl ⟨rfl, ?_⟩) (by assumption) ?_; rotate_left; (intro X hSw; (try dsimp only at hSw); (go_simp <;> with_reducible rfl)))
          | (refine held_take (i := 1) (v := undef) rfl (by kernel_rfl) (by kernel_rfl) (by kernel_rfl) (fun _ _ _ h => h) (Or.inr ⟨rfl, rfl⟩) (by assumption) ?_)); simp only [Act.put, List.setIfInBounds_toArray, List.set_cons_zero, List.set_cons_succ]
        (first
          | (refine held_take (i := 2) (v := ?_) rfl (by kernel_rfl) (by kernel_rfl) (by kernel_rfl) (fun _ _ _ h => h) (Or.inl ⟨rfl, ?_⟩) (by assumption) ?_; rotate_left; (intro X hSw; (try dsimp only at hSw); (go_simp <;> with_reducible rfl)))
          | (refine held_take (i := 2) (v := undef) rfl (by kernel_rfl) (by kernel_rfl) (by kernel_rfl) (fun _ _ _ h => h) (Or.inr ⟨rfl, rfl⟩) (by assumption) ?_)); simp only [Act.put, List.setIfInBounds_toArray, List.set_cons_zero, List.set_cons_succ]
        (first
          | (refine held_take (i := 3) (v := ?_) rfl (by kernel_rfl) (by kernel_rfl) (by kernel_rfl) (fun _ _ _ h => h) (Or.inl ⟨rfl, ?_⟩) (by assumption) ?_; rotate_left; (intro X hSw; (try dsimp only at hSw); (go_simp <;> with_reducible rfl)))
          | (refine held_take (i := 3) (v := undef) rfl (by kernel_rfl) (by kernel_rfl) (by kernel_rfl) (fun _ _ _ h => h) (Or.inr ⟨rfl, rfl⟩) (by assumption) ?_)); simp only [Act.put, List.setIfInBounds_toArray, List.set_cons_zero, List.set_cons_succ]
        (first
          | (refine held_take (i := 4) (v := ?_) rfl (by kernel_rfl) (by kernel_rfl) (by kernel_rfl) (fun _ _ _ h => h) (Or.inl ⟨rfl, ?_⟩) (by assumption) ?_; rotate_left; (intro X hSw; (try dsimp only at hSw); (go_simp <;> with_reducible rfl)))
          | (refine held_take (i := 4) (v := undef) rfl (by kernel_rfl) (by kernel_rfl) (by kernel_rfl) (fun _ _ _ h => h) (Or.inr ⟨rfl, rfl⟩) (by assumption) ?_)); simp only [Act.put, List.setIfInBounds_toArray, List.set_cons_zero, List.set_cons_succ]
        (first
          | (refine held_take (i := 5) (v := ?_) rfl (by kernel_rfl) (by kernel_rfl) (by kernel_rfl) (fun _ _ _ h => h) (Or.inl ⟨rfl, ?_⟩) (by assumption) ?_; rotate_left; (intro X hSw; (try dsimp only at hSw); (go_simp <;> with_reducible rfl)))
          | (refine held_take (i := 5) (v := undef) rfl (by kernel_rfl) (by kernel_rfl) (by kernel_rfl) (fun _ _ _ h => h) (Or.inr ⟨rfl, rfl⟩) (by assumption) ?_)); simp only [Act.put, List.setIfInBounds_toArray, List.set_cons_zero, List.set_cons_succ]
        (first
          | (refine held_take (i := 6) (v := ?_) rfl (by kernel_rfl) (by kernel_rfl) (by kernel_rfl) (fun _ _ _ h => h) (Or.inl ⟨rfl, ?_⟩) (by assumption) ?_; rotate_left; (intro X hSw; (try dsimp only at hSw); (go_simp <;> with_reducible rfl)))
          | (refine held_take (i := 6) (v := undef) rfl (by kernel_rfl) (by kernel_rfl) (by kernel_rfl) (fun _ _ _ h => h) (Or.inr ⟨rfl, rfl⟩) (by assumption) ?_)); simp only [Act.put, List.setIfInBounds_toArray, List.set_cons_zero, List.set_cons_succ]
        (first
          | (refine held_take (i := 7) (v := ?_) rfl (by kernel_rfl) (by kernel_rfl) (by kernel_rfl) (fun _ _ _ h => h) (Or.inl ⟨rfl, ?_⟩) (by assumption) ?_; rotate_left; (intro X hSw; (try dsimp only at hSw); (go_simp <;> with_reducible rfl)))
          | (refine held_take (i := 7) (v := undef) rfl (by kernel_rfl) (by kernel_rfl) (by kernel_rfl) (fun _ _ _ h => h) (Or.inr ⟨rfl, rfl⟩) (by assumption) ?_)); simp only [Act.put, List.setIfInBounds_toArray, List.set_cons_zero, List.set_cons_succ]
        (first
          | (refine held_take (i := 8) (v := ?_) rfl (by kernel_rfl) (by kernel_rfl) (by kernel_rfl) (fun _ _ _ h => h) (Or.inl ⟨rfl, ?_⟩) (by assumption) ?_; rotate_left; (intro X hSw; (try dsimp only at hSw); (go_simp <;> with_reducible rfl)))
          | (refine held_take (i := 8) (v := undef) rfl (by kernel_rfl) (by kernel_rfl) (by kernel_rfl) (fun _ _ _ h => h) (Or.inr ⟨rfl, rfl⟩) (by assumption) ?_)); simp only [Act.put, List.setIfInBounds_toArray, List.set_cons_zero, List.set_cons_succ]
        (first
          | (refine held_take (i := 9) (v := ?_) rfl (by kernel_rfl) (by kernel_rfl) (by kernel_rfl) (fun _ _ _ h => h) (Or.inl ⟨rfl, ?_⟩) (by assumption) ?_; rotate_left; (intro X hSw; (try dsimp only at hSw); (go_simp <;> with_reducible rfl)))
          | (refine held_take (i := 9) (v := undef) rfl (by kernel_rfl) (by kernel_rfl) (by kernel_rfl) (fun _ _ _ h => h) (Or.inr ⟨rfl, rfl⟩) (by assumption) ?_)); simp only [Act.put, List.setIfInBounds_toArray, List.set_cons_zero, List.set_cons_succ]
        refine wpAnyH_ready (rs := [10]) (by kernel_rfl) (by simp) ?_
        refine AllReadyH.cons rfl (fun K hK => ?_) AllReadyH.nil
        go_simp
        refine (HC.out _ HBD.out.drew).mono ?_
        rintro e w2 ⟨r, rfl, hr, hb2⟩
        have HB2 := Lib.hid (HBD.out.drew.trans (hb2.mono HBD.out.drew.size))
        have HR2 := Lib.hid hr
        clear hr hb2 hHeld
        refine hK.out _ _ ?_ (fun hHeld => ?_)
        · exact HS.out _ HB2.out
        clear hK K
        have HB3 := Lib.hid (HB.out.trans (HB2.out.mono HB.out.size))
        cases r
        · have HF : Hid (¬ Q) := fun h => by
            have := HR2.out.2 (HHIT.out.1 (HQ.out.1 h)).1
            cases this
          (first
            | (refine held_take (i := 11) (v := ?_) rfl (by kernel_rfl) (by kernel_rfl) (by kernel_rfl) (fun _ _ _ h => h) (Or.inl ⟨rfl, ?_⟩) (by assumption) ?_; rotate_left; (intro X hSw; (try dsimp only at hSw); (go_simp <;> with_reducible rfl)))
            | (refine held_take (i := 11) (v := undef) rfl (by kernel_rfl) (by kernel_rfl) (by kernel_rfl) (fun _ _ _ h => h) (Or.inr ⟨rfl, rfl⟩) (by assumption) ?_)); simp only [Act.put, List.setIfInBounds_toArray, List.set_cons_zero, List.set_cons_succ]
          refine wpAnyH_done (by kernel_rfl) ?_ _
          go_wp2
          go_ret
          exact ⟨false, rfl, iffF HF.out, HBX.out.trans (HB3.out.mono HBX.out.size)⟩
        · have hfit := (show FitD n (.mk pk pmn pmx pns pms pkids) (.mk qk qf qt qns qkids) from by first | exact HR2.out.1 rfl | exact HR2.out.1 trivial)
          have HQ2 : Hid (Q ↔ MemAt (FitD n) ns ms kids jns jkids (i + 1) (a + 1)) := by
            show _ ↔ _
            rw [HQ.out, HHIT.out]
            exact ⟨fun h => h.2, fun h => ⟨hfit, h⟩⟩
          clear hfit HR2 HQ HHIT
          (first
            | (refine held_take (i := 11) (v := ?_) rfl (by kernel_rfl) (by kernel_rfl) (by kernel_rfl) (fun _ _ _ h => h) (Or.inl ⟨rfl, ?_⟩) (by assumption) ?_; rotate_left; (intro X hSw; (try dsimp only at hSw); (go_simp <;> with_reducible rfl)))
            | (refine held_take (i := 11) (v := undef) rfl (by kernel_rfl) (by kernel_rfl) (by kernel_rfl) (fun _ _ _ h => h) (Or.inr ⟨rfl, rfl⟩) (by assumption) ?_)); simp only [Act.put, List.setIfInBounds_toArray, List.set_cons_zero, List.set_cons_succ]
          refine wpAnyH_done (by kernel_rfl) ?_ _
          go_wp2
          go_roundw
          case rel => exact ⟨a + 1, i + 1, by go_num, by go_num, by omega, by omega, HQ2, HB3⟩
          case measure => simp [intOf]; omega
      · have HMISS := Lib.hid (memAt_miss (R := FitD n) HE.out.1 HE.out.2.1 HE.out.2.2 hin (fun h1 h2 => hit ⟨h1, h2⟩))
        obtain ⟨mu, hmu⟩ : ∃ mu, ms[i]'hims = mu := ⟨_, rfl⟩
        rw [hmu] at e4 HMISS
        by_cases han : a < jns.length
        · have han' : (a : Int) < (jns.length : Int) := by omega
          obtain ⟨b7, off7, rfl, e7⟩ := (HVJ.out.a.keep HB.out).str han
          have hne : jns[a] ≠ ns[i] := fun h => hit ⟨han, h⟩
          generalize ns[i] = nm at *
          generalize jns[a] = jm at *
          have hne2 : (jm.toList == nm.toList) = false := str_ne hne
          clear hit hmu hne
          cases mu
          · have HQ2 : Hid (Q ↔ MemAt (FitD n) ns ms kids jns jkids (i + 1) a) := by
              show _ ↔ _
              rw [HQ.out, HMISS.out]
              exact ⟨fun h => h.2, fun h => ⟨rfl, h⟩⟩
            clear HQ HMISS
            go_wp2
            go_quiet (fail)
            go_wp2
            go_roundw
            case rel => exact ⟨a, i + 1, rfl, by go_num, by omega, by omega, HQ2, Lib.hid (below_drewN HB.out _)⟩
            case measure => simp [intOf]; omega
          · have HF : Hid (¬ Q) := fun h => by have := (HMISS.out.1 (HQ.out.1 h)).1; cases this
            go_wp2
            go_quiet (fail)
            go_wp2
            go_ret
            exact ⟨false, rfl, iffF HF.out, HBX.out.trans ((below_drewN HB.out _).mono HBX.out.size)⟩
        · have han' : ¬ (a : Int) < (jns.length : Int) := by omega
          clear hit hmu
          cases mu
          · have HQ2 : Hid (Q ↔ MemAt (FitD n) ns ms kids jns jkids (i + 1) a) := by
              show _ ↔ _
              rw [HQ.out, HMISS.out]
              exact ⟨fun h => h.2, fun h => ⟨rfl, h⟩⟩
            clear HQ HMISS
            go_wp2
            go_quiet (fail)
            go_wp2
            go_roundw
            case rel => exact ⟨a, i + 1, rfl, by go_num, by omega, by omega, HQ2, Lib.hid (below_drewN HB.out _)⟩
            case measure => simp [intOf]; omega
          · have HF : Hid (¬ Q) := fun h => by have := (HMISS.out.1 (HQ.out.1 h)).1; cases this
            go_wp2
            go_quiet (fail)
            go_wp2
            go_ret
            exact ⟨false, rfl, iffF HF.out, HBX.out.trans ((below_drewN HB.out _).mono HBX.out.size)⟩
    · have hin' : ¬ (i : Int) < (ns.length : Int) := by omega
      have HEND := Lib.hid (memAt_end (R := FitD n) HE.out.1 HE.out.2.1 HE.out.2.2 (by omega : ns.length ≤ i) ha)
      go_wp2
      go_ret
      refine ⟨_, rfl, ?_, HBX.out.trans (HB.out.mono HBX.out.size)⟩
      rw [HQ.out, HEND.out, beq_iff_eq]
      omega

end Go.Proofs.YtkhcappjhefkjaaGreatDoor

