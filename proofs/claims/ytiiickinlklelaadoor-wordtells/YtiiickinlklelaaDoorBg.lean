/- What the statements ask of package word in any case holds. -/
import Derived.Test.YtiiickinlklelaaDoorRa
namespace Go.Proofs.YtiiickinlklelaaDoor
open Go.ChangeShapes Go.WideShapes Go.ChangeAt Go.RowKit Go.Shelf
def sA : ByteArray := ⟨#[97]⟩
def sX : ByteArray := ⟨#[120]⟩
theorem k1 : Wd.wr 1 = 15 := by decide +kernel
theorem k2 : Wd.rb 47 = 1 ∧ Wd.rn 47 = 2 := by decide +kernel
theorem k3 : Wd.rn 12 = 0 := by decide +kernel
theorem k4 : bl (mkS (wa (bl sA))) = [Wd.wr 97 / 256, Wd.wr 97 % 256] := by decide +kernel
theorem k5 : Wd.rn (rws (bl (mkS (wa (bl sA)))) 0) = 1 ∧ Wd.rb (rws (bl (mkS (wa (bl sA)))) 0) = 97 := by decide +kernel
set_option maxRecDepth 100000 in
set_option maxHeartbeats 2000000 in
theorem begun_any (w : World) (hG : Gl w) :
    Calls Tryd.prog 10 #[] w fun e w' => e = .returned (.bool true) ∧ Below w.heap.size w w' := by
  have HG := hid_of hG
  have h2 := hG.sz
  have c1 := hid_of (write_any 1 (by decide) w hG)
  rw [k1] at c1
  have x1 : bits .xor .u16 (15 : Int) 32 = 47 := by decide +kernel
  have x2 : bits .xor .u16 (15 : Int) 3 = 12 := by decide +kernel
  have r47 : rm 47 = 1 := by unfold rm; rw [k2.2]; rfl
  have r12 : rm 12 = -1 := by unfold rm; rw [k3]; rfl
  have c2 := hid_of (fun W (h : Gl W) => read_any 47 (by decide) W h)
  rw [k2.1, r47] at c2
  have c3 := hid_of (fun W (h : Gl W) => read_any 12 (by decide) W h)
  rw [r12] at c3
  have c4 := hid_of (fun W (h : Gl W) => writeAll_any sA (by decide) W h)
  have e1 : (mkS (wa (bl sA))).size = 2 := by decide +kernel
  have c5 : Hid (∀ W, Gl W → Calls Tryd.prog 6 #[.string (mkS (wa (bl sA)))] W fun e w' => e = .returned (.tuple #[.string sA, .int .i64 0, .int .i64 0]) ∧ Below W.heap.size W w') := by
    intro W h
    refine (readAll_any (mkS (wa (bl sA))) 1 e1 (by decide) W h).mono ?_
    rintro e w' ⟨hb, ⟨⟨j, hj, h0⟩, rfl⟩ | ⟨_, rfl⟩⟩
    · obtain rfl : j = 0 := by omega
      rw [k5.1] at h0
      cases h0
    · refine ⟨?_, hb⟩
      have ea : rtx (bl (mkS (wa (bl sA)))) 1 = [97] := by simp [rtx, k5.2]
      have eb : rmd (bl (mkS (wa (bl sA)))) 1 = 0 := by simp [rmd, rm, k5.1]
      rw [ea, eb]
      rfl
  have c6 := hid_of (fun W => readAll_odd sX (by decide) (by decide) W)
  generalize mkS (wa (bl sA)) = S at *
  have e2 : (S.size : Int) = 2 := by rw [e1]; rfl
  have hsa : sA.toList = [97] := by decide +kernel
  clear hG
  go_enter Tryd.func10, Tryd.ntmps10
  go_wp2_with fail
  refine c1.out.mono ?_
  rintro e w1 ⟨rfl, hb1⟩
  have B1 := hid_of hb1
  clear hb1
  go_wp2_with fail
  refine (c2.out _ (HG.out.below h2 B1.out)).mono ?_
  rintro e w2 ⟨rfl, hb2⟩
  have B2 := hid_of (B1.out.trans (hb2.mono B1.out.size))
  clear hb2
  go_wp2_with fail
  refine (c3.out _ (HG.out.below h2 B2.out)).mono ?_
  rintro e w3 ⟨rfl, hb3⟩
  have B3 := hid_of (B2.out.trans (hb3.mono B2.out.size))
  clear hb3
  go_wp2_with fail
  refine (c4.out _ (HG.out.below h2 B3.out)).mono ?_
  rintro e w4 ⟨rfl, hb4⟩
  have B4 := hid_of (B3.out.trans (hb4.mono B3.out.size))
  clear hb4
  go_wp2_with fail
  refine (c5.out _ (HG.out.below h2 B4.out)).mono ?_
  rintro e w5 ⟨rfl, hb5⟩
  have B5 := hid_of (B4.out.trans (hb5.mono B4.out.size))
  clear hb5
  go_wp2_with fail
  refine (c6.out _).mono ?_
  rintro e w6 ⟨rfl, rfl⟩
  go_wp2_with fail
  go_ret
  exact ⟨rfl, B5.out⟩
end Go.Proofs.YtiiickinlklelaaDoor
