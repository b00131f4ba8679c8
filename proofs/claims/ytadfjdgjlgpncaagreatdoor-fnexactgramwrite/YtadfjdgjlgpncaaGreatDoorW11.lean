/- impl.manyText (written by tools/gen_w11.py). -/
import Derived.Test.YtadfjdgjlgpncaaGreatDoorW10
namespace Go.Proofs.YtadfjdgjlgpncaaGreatDoor
open Go.RowKit
set_option linter.unusedVariables false

set_option maxRecDepth 100000 in
set_option maxHeartbeats 4000000 in
theorem manyText_any {n : Nat} (IH : PaT n) (rs : List Ru) (p : Pt) (mn mx : Int) (K : Option Addr) (kc B0 : Nat) (w : World) (hn : NamesP rs) (hh : p.ht ≤ n) (hk : Pts w B0 K [p]) (ho : OkP rs p) (hnd : p.nodes + 1 ≤ 160) (m0 : 0 ≤ mn) (m6 : mn ≤ 6) (mxx : mx = -1 ∨ (0 ≤ mx ∧ mx ≤ 6)) :
    Calls Tryz.prog 71 #[.agg #[.slice K 1 kc, .int .i64 mn, .int .i64 mx]] w (TextIs (encl (decide (0 < p.kids.length)) (txt p) ++ timesT mn mx) w) := by
  have hlen := txt_len hn p.ht p (Nat.le_refl _) ho
  obtain ⟨b, off, rfl, hp⟩ := hk.at_ (i := 0) (by simp)
  simp only [List.getElem_cons_zero, Nat.zero_mul, Nat.add_zero] at hp
  have HBX : Hid (Below w.heap.size w (w.alloc (.cells #[.slice (some ⟨b, off, none⟩) 1 kc, .int .i64 mn, .int .i64 mx] 111))) := below_box _
  replace hp := hp.keep HBX.out
  clear hk
  obtain ⟨pk, pt, plo, phi, pkids, pmn, pmx⟩ := p
  rw [ht_mk] at hh
  rw [nodes_mk] at hnd hlen
  obtain ⟨PA, PB, PK, pa, pb, pc, hc, hv⟩ := hp.open_
  obtain ⟨c0, c1, c2, c3, c4, c5, c6⟩ := hc
  have HTL : Hid (∀ (en : Bool) (s : ByteArray), bl s = encl en (txt (.mk pk pt plo phi pkids pmn pmx)) → s.size ≤ 170000) := fun en s hs => by
    rw [bl_size, hs]
    have := encl_len en (txt (.mk pk pt plo phi pkids pmn pmx))
    omega
  have hk2 : (0 : Int) < (1 : Int) := by omega
  by_cases h0 : 0 < pkids.length
  · have h0' : (0 : Int) < (pkids.length : Int) := by omega
    have HCK : Hid (∀ w2, Below (w.alloc (.cells #[.slice (some ⟨b, off, none⟩) 1 kc, .int .i64 mn, .int .i64 mx] 111)).heap.size (w.alloc (.cells #[.slice (some ⟨b, off, none⟩) 1 kc, .int .i64 mn, .int .i64 mx] 111)) w2 → Calls Tryz.prog 99 #[.agg #[.int .i64 pk, .string pt, .slice PA plo.length pa, .slice PB phi.length pb, .slice PK pkids.length pc, .int .i64 pmn, .int .i64 pmx], .bool true] w2 (TextIs (encl true (txt (.mk pk pt plo phi pkids pmn pmx))) w2)) := fun w2 h2 => kidText_any IH true rs pk pt plo phi pkids pmn pmx PA PB PK pa pb pc B0 w2 hn (by omega) (hv.keep h2) ho (by omega)
    have HEN : Hid (encl (decide (0 < pkids.length)) (txt (.mk pk pt plo phi pkids pmn pmx)) = encl true (txt (.mk pk pt plo phi pkids pmn pmx))) := by show _ = _; rw [show decide (0 < pkids.length) = true from by simpa using h0]
    rw [show (Pt.mk pk pt plo phi pkids pmn pmx).kids = pkids from rfl, HEN.out]
    clear HEN hn IH hp hv ho hlen
    generalize txt (.mk pk pt plo phi pkids pmn pmx) = TX at *
    go_enter Tryz.func71, Tryz.ntmps71
    go_wp2
    have k0 : (w.alloc (.cells #[.slice (some ⟨b, off, none⟩) 1 kc, .int .i64 mn, .int .i64 mx] 111)).cell? ⟨w.heap.size, 0, none⟩ = some (.slice (some ⟨b, off, none⟩) 1 kc) := by simp
    have k1 : (w.alloc (.cells #[.slice (some ⟨b, off, none⟩) 1 kc, .int .i64 mn, .int .i64 mx] 111)).cell? ⟨w.heap.size, 1, none⟩ = some (.int .i64 mn) := by simp
    have k2 : (w.alloc (.cells #[.slice (some ⟨b, off, none⟩) 1 kc, .int .i64 mn, .int .i64 mx] 111)).cell? ⟨w.heap.size, 2, none⟩ = some (.int .i64 mx) := by simp
    generalize (w.alloc (.cells #[.slice (some ⟨b, off, none⟩) 1 kc, .int .i64 mn, .int .i64 mx] 111)) = W0 at *
    go_region_held3 (fun X => X.cell? ⟨w.heap.size, 0, none⟩ = some (.slice (some ⟨b, off, none⟩) 1 kc) ∧ X.cell? ⟨w.heap.size, 1, none⟩ = some (.int .i64 mn) ∧ X.cell? ⟨w.heap.size, 2, none⟩ = some (.int .i64 mx) ∧ X.cell? ⟨b, off, none⟩ = some (.int .i64 pk) ∧ X.cell? ⟨b, off + 1, none⟩ = some (.string pt) ∧ X.cell? ⟨b, off + 2, none⟩ = some (.slice PA plo.length pa) ∧ X.cell? ⟨b, off + 3, none⟩ = some (.slice PB phi.length pb) ∧ X.cell? ⟨b, off + 4, none⟩ = some (.slice PK pkids.length pc) ∧ X.cell? ⟨b, off + 5, none⟩ = some (.int .i64 pmn) ∧ X.cell? ⟨b, off + 6, none⟩ = some (.int .i64 pmx))
      (first | exact ⟨cell_keep hb3 (cell_keep hb2 k0), cell_keep hb3 (cell_keep hb2 k1), cell_keep hb3 (cell_keep hb2 k2), cell_keep hb3 (cell_keep hb2 c0), cell_keep hb3 (cell_keep hb2 c1), cell_keep hb3 (cell_keep hb2 c2), cell_keep hb3 (cell_keep hb2 c3), cell_keep hb3 (cell_keep hb2 c4), cell_keep hb3 (cell_keep hb2 c5), cell_keep hb3 (cell_keep hb2 c6)⟩ | exact ⟨cell_keep hb2 k0, cell_keep hb2 k1, cell_keep hb2 k2, cell_keep hb2 c0, cell_keep hb2 c1, cell_keep hb2 c2, cell_keep hb2 c3, cell_keep hb2 c4, cell_keep hb2 c5, cell_keep hb2 c6⟩ | exact ⟨k0, k1, k2, c0, c1, c2, c3, c4, c5, c6⟩)
      (first | (go_at_call 101; refine (timesText_any mn mx _ m0 m6 mxx).mono ?_; rintro e w3 ⟨s2, rfl, h2, hb3⟩; have z2 : s2.size ≤ 5 := by { rw [bl_size, h2]; exact times_len mn mx }; have H2 := Lib.hid h2; clear h2; have q3 : ¬ 9223372036854775807 < s1.size + s2.size := (by omega))
             | (go_at_call 99; refine (HCK.out _ (Below.refl _ _).drew).mono ?_; rintro e w2 ⟨s1, rfl, h1, hb2⟩; have z1 : s1.size ≤ 170000 := HTL.out true s1 h1; have H1 := Lib.hid h1; clear h1))
    have hbb := Lib.hid (HBX.out.trans ((((Below.refl _ _).drew : Below W0.heap.size W0 W0.drew).trans (hb2.trans (hb3.mono hb2.size))).mono HBX.out.size))
    go_wp2
    go_ret
    exact ⟨_, rfl, by rw [bl_append, H1.out, H2.out], hbb.out⟩
  · have h0' : ¬ (0 : Int) < (pkids.length : Int) := by omega
    have HCK : Hid (∀ w2, Below (w.alloc (.cells #[.slice (some ⟨b, off, none⟩) 1 kc, .int .i64 mn, .int .i64 mx] 111)).heap.size (w.alloc (.cells #[.slice (some ⟨b, off, none⟩) 1 kc, .int .i64 mn, .int .i64 mx] 111)) w2 → Calls Tryz.prog 99 #[.agg #[.int .i64 pk, .string pt, .slice PA plo.length pa, .slice PB phi.length pb, .slice PK pkids.length pc, .int .i64 pmn, .int .i64 pmx], .bool false] w2 (TextIs (encl false (txt (.mk pk pt plo phi pkids pmn pmx))) w2)) := fun w2 h2 => kidText_any IH false rs pk pt plo phi pkids pmn pmx PA PB PK pa pb pc B0 w2 hn (by omega) (hv.keep h2) ho (by omega)
    have HEN : Hid (encl (decide (0 < pkids.length)) (txt (.mk pk pt plo phi pkids pmn pmx)) = encl false (txt (.mk pk pt plo phi pkids pmn pmx))) := by show _ = _; rw [show decide (0 < pkids.length) = false from by simpa using h0]
    rw [show (Pt.mk pk pt plo phi pkids pmn pmx).kids = pkids from rfl, HEN.out]
    clear HEN hn IH hp hv ho hlen
    generalize txt (.mk pk pt plo phi pkids pmn pmx) = TX at *
    go_enter Tryz.func71, Tryz.ntmps71
    go_wp2
    have k0 : (w.alloc (.cells #[.slice (some ⟨b, off, none⟩) 1 kc, .int .i64 mn, .int .i64 mx] 111)).cell? ⟨w.heap.size, 0, none⟩ = some (.slice (some ⟨b, off, none⟩) 1 kc) := by simp
    have k1 : (w.alloc (.cells #[.slice (some ⟨b, off, none⟩) 1 kc, .int .i64 mn, .int .i64 mx] 111)).cell? ⟨w.heap.size, 1, none⟩ = some (.int .i64 mn) := by simp
    have k2 : (w.alloc (.cells #[.slice (some ⟨b, off, none⟩) 1 kc, .int .i64 mn, .int .i64 mx] 111)).cell? ⟨w.heap.size, 2, none⟩ = some (.int .i64 mx) := by simp
    generalize (w.alloc (.cells #[.slice (some ⟨b, off, none⟩) 1 kc, .int .i64 mn, .int .i64 mx] 111)) = W0 at *
    go_region_held3 (fun X => X.cell? ⟨w.heap.size, 0, none⟩ = some (.slice (some ⟨b, off, none⟩) 1 kc) ∧ X.cell? ⟨w.heap.size, 1, none⟩ = some (.int .i64 mn) ∧ X.cell? ⟨w.heap.size, 2, none⟩ = some (.int .i64 mx) ∧ X.cell? ⟨b, off, none⟩ = some (.int .i64 pk) ∧ X.cell? ⟨b, off + 1, none⟩ = some (.string pt) ∧ X.cell? ⟨b, off + 2, none⟩ = some (.slice PA plo.length pa) ∧ X.cell? ⟨b, off + 3, none⟩ = some (.slice PB phi.length pb) ∧ X.cell? ⟨b, off + 4, none⟩ = some (.slice PK pkids.length pc) ∧ X.cell? ⟨b, off + 5, none⟩ = some (.int .i64 pmn) ∧ X.cell? ⟨b, off + 6, none⟩ = some (.int .i64 pmx))
      (first | exact ⟨cell_keep hb3 (cell_keep hb2 k0), cell_keep hb3 (cell_keep hb2 k1), cell_keep hb3 (cell_keep hb2 k2), cell_keep hb3 (cell_keep hb2 c0), cell_keep hb3 (cell_keep hb2 c1), cell_keep hb3 (cell_keep hb2 c2), cell_keep hb3 (cell_keep hb2 c3), cell_keep hb3 (cell_keep hb2 c4), cell_keep hb3 (cell_keep hb2 c5), cell_keep hb3 (cell_keep hb2 c6)⟩ | exact ⟨cell_keep hb2 k0, cell_keep hb2 k1, cell_keep hb2 k2, cell_keep hb2 c0, cell_keep hb2 c1, cell_keep hb2 c2, cell_keep hb2 c3, cell_keep hb2 c4, cell_keep hb2 c5, cell_keep hb2 c6⟩ | exact ⟨k0, k1, k2, c0, c1, c2, c3, c4, c5, c6⟩)
      (first | (go_at_call 101; refine (timesText_any mn mx _ m0 m6 mxx).mono ?_; rintro e w3 ⟨s2, rfl, h2, hb3⟩; have z2 : s2.size ≤ 5 := by { rw [bl_size, h2]; exact times_len mn mx }; have H2 := Lib.hid h2; clear h2; have q3 : ¬ 9223372036854775807 < s1.size + s2.size := (by omega))
             | (go_at_call 99; refine (HCK.out _ (Below.refl _ _).drew).mono ?_; rintro e w2 ⟨s1, rfl, h1, hb2⟩; have z1 : s1.size ≤ 170000 := HTL.out false s1 h1; have H1 := Lib.hid h1; clear h1))
    have hbb := Lib.hid (HBX.out.trans ((((Below.refl _ _).drew : Below W0.heap.size W0 W0.drew).trans (hb2.trans (hb3.mono hb2.size))).mono HBX.out.size))
    go_wp2
    go_ret
    exact ⟨_, rfl, by rw [bl_append, H1.out, H2.out], hbb.out⟩

set_option maxRecDepth 100000 in
set_option maxHeartbeats 4000000 in
theorem seqText_none (K : Option Addr) (kc : Nat) (w : World) : Calls Tryz.prog 69 #[.slice K 0 kc] w (TextIs [40, 41] w) := by
  go_enter Tryz.func69, Tryz.ntmps69
  go_wp2
  go_ret
  exact ⟨_, rfl, rfl, Below.refl _ _⟩

end Go.Proofs.YtadfjdgjlgpncaaGreatDoor
