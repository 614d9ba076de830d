import Derived.Test.YtiiobeelmnjffabDoorDecA
import Derived.Deep.CutRange
import Derived.Deep.RegionWith
import Derived.Deep.RegionHeld3
import Derived.BigRegion
namespace Go.Proofs.YtiiobeelmnjffabDoor
open Go.ChangeShapes Go.WideShapes Go.ChangeAt Go.RowKit

set_option linter.unusedVariables false
set_option maxRecDepth 1000000 in
set_option maxHeartbeats 4000000 in
/-- The three coded bits of a bit: a statement of 62 operations that draws its order. -/
theorem dec17 (wq : World) (bq : Nat) (b0 z1 z2 z3 z4 z5 z6 : Int) (y0 : 0 ≤ b0 ∧ b0 ≤ 1) (y1 : 0 ≤ z1 ∧ z1 ≤ 1) (y2 : 0 ≤ z2 ∧ z2 ≤ 1) (y3 : 0 ≤ z3 ∧ z3 ≤ 1) (y4 : 0 ≤ z4 ∧ z4 ≤ 1) (y5 : 0 ≤ z5 ∧ z5 ≤ 1) (y6 : 0 ≤ z6 ∧ z6 ≤ 1)
    (hL : wq.heap[bq]? = some (.cells (([b0, z1, z2, z3, z4, z5, z6] : List Int).map (Value.int .u8)).toArray 5 (0, 0))) (Q : Exit → Act → World → Prop) (f0 f1 f2 f3 f4 f5 f6 f7 f8 f9 f11 f12 f13 f14 f15 f16 f17 f18 f19 f20 f21 f22 f23 f24 f25 f26 f27 f28 f29 f30 f31 f32 f33 f34 f35 f36 f37 f38 f39 f40 f41 f42 f43 f44 f45 f46 f47 f48 f49 f50 f51 f52 f53 f54 f55 f56 f57 f58 f59 f60 f61 f62 f63 f64 f65 f66 f67 f68 f69 f70 f71 f72 f73 f74 f75 f76 f77 f78 f79 f80 f81 f82 f83 f84 f85 f86 f87 f88 f89 f90 f91 f92 f93 f94 f95 f96 f97 f98 f99 f100 f101 f102 f103 f104 f105 f106 f107 f108 f109 f110 f111 f112 f113 f114 f115 f116 f117 f118 f119 f120 f121 f122 f123 f124 f125 f126 f127 f128 f129 f130 f131 f132 f133 f134 f135 f136 f137 f138 f139 f140 f141 f142 f143 f144 f145 f146 f147 f148 f149 f150 f151 f152 f153 f154 f155 f156 f157 f158 f159 f160 f161 f162 f163 f164 f165 f166 f167 f168 f169 f170 f171 f172 f173 f174 f175 f176 f177 f178 f179 f180 f181 f182 f183 f184 f185 f186 f187 f188 f189 f190 f191 f192 f193 f194 f195 f196 f197 f198 f199 f200 f201 f202 f203 f204 f205 f206 f207 f208 f209 f210 f211 f212 f213 f214 f215 f216 f217 f218 f219 f220 f221 f222 : Value)
    (hK : ∀ (v76 v77 v78 v79 v80 v81 v82 v83 v84 v85 v86 v87 v88 v89 v90 v91 v92 v93 v94 v95 v96 v97 v98 v99 v100 v101 v102 v103 v104 v105 v106 v107 v108 v109 v110 v111 v112 v113 v114 v115 v116 v117 v118 v119 v120 v121 v122 v123 v124 v125 v126 v127 v128 v129 v130 v131 v132 v133 v134 v135 v136 : Value), Q .normal ⟨#[f0, f1, f2, f3, f4, f5, f6, f7, f8, f9, .slice (some ⟨bq, 0, none⟩) 7 7, .slice (some ⟨wq.heap.size, 0, none⟩) 3 3, f12, f13, f14, f15, f16, f17, f18, f19, f20, f21, f22, f23, f24, f25, f26, f27, f28, f29, f30, f31, f32, f33, f34, f35, f36, f37, f38, f39, f40, f41, f42, f43, f44, f45, f46, f47, f48, f49, f50, f51, f52, f53, f54, f55, f56, f57, f58, f59, f60, f61, f62, f63, f64, f65, f66, f67, f68, f69, f70, f71, f72, f73, f74, f75, v76, v77, v78, v79, v80, v81, v82, v83, v84, v85, v86, v87, v88, v89, v90, v91, v92, v93, v94, v95, v96, v97, v98, v99, v100, v101, v102, v103, v104, v105, v106, v107, v108, v109, v110, v111, v112, v113, v114, v115, v116, v117, v118, v119, v120, v121, v122, v123, v124, v125, v126, v127, v128, v129, v130, v131, v132, v133, v134, v135, v136, f137, f138, f139, f140, f141, f142, f143, f144, f145, f146, f147, f148, f149, f150, f151, f152, f153, f154, f155, f156, f157, f158, f159, f160, f161, f162, f163, f164, f165, f166, f167, f168, f169, f170, f171, f172, f173, f174, f175, f176, f177, f178, f179, f180, f181, f182, f183, f184, f185, f186, f187, f188, f189, f190, f191, f192, f193, f194, f195, f196, f197, f198, f199, f200, f201, f202, f203, f204, f205, f206, f207, f208, f209, f210, f211, f212, f213, f214, f215, f216, f217, f218, f219, f220, f221, f222], []⟩ (wq.alloc (.cells #[.int .u8 ((b0 + z1 + z2 + z3 + z6) % 2), .int .u8 ((b0 + z2 + z3 + z5 + z6) % 2), .int .u8 ((b0 + z1 + z2 + z4 + z6) % 2)] 5)).drew) :
    Code.wp Tryd.prog ((regionsIn 17 (inside (inside (inside (Tryd.f15.body.getD .skip))))).headD .skip) Q ⟨#[f0, f1, f2, f3, f4, f5, f6, f7, f8, f9, .slice (some ⟨bq, 0, none⟩) 7 7, f11, f12, f13, f14, f15, f16, f17, f18, f19, f20, f21, f22, f23, f24, f25, f26, f27, f28, f29, f30, f31, f32, f33, f34, f35, f36, f37, f38, f39, f40, f41, f42, f43, f44, f45, f46, f47, f48, f49, f50, f51, f52, f53, f54, f55, f56, f57, f58, f59, f60, f61, f62, f63, f64, f65, f66, f67, f68, f69, f70, f71, f72, f73, f74, f75, f76, f77, f78, f79, f80, f81, f82, f83, f84, f85, f86, f87, f88, f89, f90, f91, f92, f93, f94, f95, f96, f97, f98, f99, f100, f101, f102, f103, f104, f105, f106, f107, f108, f109, f110, f111, f112, f113, f114, f115, f116, f117, f118, f119, f120, f121, f122, f123, f124, f125, f126, f127, f128, f129, f130, f131, f132, f133, f134, f135, f136, f137, f138, f139, f140, f141, f142, f143, f144, f145, f146, f147, f148, f149, f150, f151, f152, f153, f154, f155, f156, f157, f158, f159, f160, f161, f162, f163, f164, f165, f166, f167, f168, f169, f170, f171, f172, f173, f174, f175, f176, f177, f178, f179, f180, f181, f182, f183, f184, f185, f186, f187, f188, f189, f190, f191, f192, f193, f194, f195, f196, f197, f198, f199, f200, f201, f202, f203, f204, f205, f206, f207, f208, f209, f210, f211, f212, f213, f214, f215, f216, f217, f218, f219, f220, f221, f222], []⟩ wq := by
  conv => arg 2; whnf
  have HK := hid hK
  clear hK
  have k0 := arr_cell hL (j := 0) (by simp)
  have k1 := arr_cell hL (j := 1) (by simp)
  have k2 := arr_cell hL (j := 2) (by simp)
  have k3 := arr_cell hL (j := 3) (by simp)
  have k4 := arr_cell hL (j := 4) (by simp)
  have k5 := arr_cell hL (j := 5) (by simp)
  have k6 := arr_cell hL (j := 6) (by simp)
  simp only [List.getD_cons_zero, List.getD_cons_succ] at k0 k1 k2 k3 k4 k5 k6
  have hne : wq.heap.size ≠ bq := Nat.ne_of_gt (World.block_lt_of_cell? wq _ k0)
  have hAl : ∀ j (v : Value) (o : Obj), wq.cell? ⟨bq, j, none⟩ = some v → (wq.alloc o).drew.cell? ⟨bq, j, none⟩ = some v := fun j v o h => ((Below.refl _ wq).alloc (Nat.le_refl _) o |>.drew).cell (p := ⟨bq, j, none⟩) (World.block_lt_of_cell? wq _ h) |>.trans h
  clear hL
  go_region_held3 (fun w' => w'.cell? ⟨bq, 0, none⟩ = some (.int .u8 b0) ∧ w'.cell? ⟨bq, 1, none⟩ = some (.int .u8 z1) ∧ w'.cell? ⟨bq, 2, none⟩ = some (.int .u8 z2) ∧ w'.cell? ⟨bq, 3, none⟩ = some (.int .u8 z3) ∧ w'.cell? ⟨bq, 4, none⟩ = some (.int .u8 z4) ∧ w'.cell? ⟨bq, 5, none⟩ = some (.int .u8 z5) ∧ w'.cell? ⟨bq, 6, none⟩ = some (.int .u8 z6)) (first | exact ⟨k0, k1, k2, k3, k4, k5, k6⟩ | exact ⟨hAl _ _ _ k0, hAl _ _ _ k1, hAl _ _ _ k2, hAl _ _ _ k3, hAl _ _ _ k4, hAl _ _ _ k5, hAl _ _ _ k6⟩) (fail)
  rw [sum5 b0 z1 z2 z3 z6, sum5 b0 z2 z3 z5 z6, sum5 b0 z1 z2 z4 z6]
  exact HK.out _ _ _ _ _ _ _ _ _ _ _ _ _ _ _ _ _ _ _ _ _ _ _ _ _ _ _ _ _ _ _ _ _ _ _ _ _ _ _ _ _ _ _ _ _ _ _ _ _ _ _ _ _ _ _ _ _ _ _ _ _
end Go.Proofs.YtiiobeelmnjffabDoor
