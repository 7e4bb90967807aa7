import Derived.Test.YtbofjfjopeaefaaT10
import Derived.Test.YtbofjfjopeaefaaProg
import Derived.KernelRfl
import Derived.Test.YtbofjfjopeaefaaT11
set_option linter.unusedSimpArgs false
set_option linter.unusedVariables false
namespace Go.Am
open Go.Proofs
noncomputable def tyTree : Tr TypeInfo := (.node 0 Try.t0 (.node 1 Try.t1 (.node 3 Try.t3 (.node 7 Try.t7 (.node 15 Try.t15 (.node 31 Try.t31 (.node 63 Try.t63 (.node 127 Try.t127 .nil .nil) (.node 191 Try.t191 .nil .nil)) (.node 95 Try.t95 (.node 159 Try.t159 .nil .nil) .nil)) (.node 47 Try.t47 (.node 79 Try.t79 (.node 143 Try.t143 .nil .nil) .nil) (.node 111 Try.t111 (.node 175 Try.t175 .nil .nil) .nil))) (.node 23 Try.t23 (.node 39 Try.t39 (.node 71 Try.t71 (.node 135 Try.t135 .nil .nil) (.node 199 Try.t199 .nil .nil)) (.node 103 Try.t103 (.node 167 Try.t167 .nil .nil) .nil)) (.node 55 Try.t55 (.node 87 Try.t87 (.node 151 Try.t151 .nil .nil) .nil) (.node 119 Try.t119 (.node 183 Try.t183 .nil .nil) .nil)))) (.node 11 Try.t11 (.node 19 Try.t19 (.node 35 Try.t35 (.node 67 Try.t67 (.node 131 Try.t131 .nil .nil) (.node 195 Try.t195 .nil .nil)) (.node 99 Try.t99 (.node 163 Try.t163 .nil .nil) .nil)) (.node 51 Try.t51 (.node 83 Try.t83 (.node 147 Try.t147 .nil .nil) .nil) (.node 115 Try.t115 (.node 179 Try.t179 .nil .nil) .nil))) (.node 27 Try.t27 (.node 43 Try.t43 (.node 75 Try.t75 (.node 139 Try.t139 .nil .nil) .nil) (.node 107 Try.t107 (.node 171 Try.t171 .nil .nil) .nil)) (.node 59 Try.t59 (.node 91 Try.t91 (.node 155 Try.t155 .nil .nil) .nil) (.node 123 Try.t123 (.node 187 Try.t187 .nil .nil) .nil))))) (.node 5 Try.t5 (.node 9 Try.t9 (.node 17 Try.t17 (.node 33 Try.t33 (.node 65 Try.t65 (.node 129 Try.t129 .nil .nil) (.node 193 Try.t193 .nil .nil)) (.node 97 Try.t97 (.node 161 Try.t161 .nil .nil) .nil)) (.node 49 Try.t49 (.node 81 Try.t81 (.node 145 Try.t145 .nil .nil) .nil) (.node 113 Try.t113 (.node 177 Try.t177 .nil .nil) .nil))) (.node 25 Try.t25 (.node 41 Try.t41 (.node 73 Try.t73 (.node 137 Try.t137 .nil .nil) (.node 201 Try.t201 .nil .nil)) (.node 105 Try.t105 (.node 169 Try.t169 .nil .nil) .nil)) (.node 57 Try.t57 (.node 89 Try.t89 (.node 153 Try.t153 .nil .nil) .nil) (.node 121 Try.t121 (.node 185 Try.t185 .nil .nil) .nil)))) (.node 13 Try.t13 (.node 21 Try.t21 (.node 37 Try.t37 (.node 69 Try.t69 (.node 133 Try.t133 .nil .nil) (.node 197 Try.t197 .nil .nil)) (.node 101 Try.t101 (.node 165 Try.t165 .nil .nil) .nil)) (.node 53 Try.t53 (.node 85 Try.t85 (.node 149 Try.t149 .nil .nil) .nil) (.node 117 Try.t117 (.node 181 Try.t181 .nil .nil) .nil))) (.node 29 Try.t29 (.node 45 Try.t45 (.node 77 Try.t77 (.node 141 Try.t141 .nil .nil) .nil) (.node 109 Try.t109 (.node 173 Try.t173 .nil .nil) .nil)) (.node 61 Try.t61 (.node 93 Try.t93 (.node 157 Try.t157 .nil .nil) .nil) (.node 125 Try.t125 (.node 189 Try.t189 .nil .nil) .nil)))))) (.node 2 Try.t2 (.node 4 Try.t4 (.node 8 Try.t8 (.node 16 Try.t16 (.node 32 Try.t32 (.node 64 Try.t64 (.node 128 Try.t128 .nil .nil) (.node 192 Try.t192 .nil .nil)) (.node 96 Try.t96 (.node 160 Try.t160 .nil .nil) .nil)) (.node 48 Try.t48 (.node 80 Try.t80 (.node 144 Try.t144 .nil .nil) .nil) (.node 112 Try.t112 (.node 176 Try.t176 .nil .nil) .nil))) (.node 24 Try.t24 (.node 40 Try.t40 (.node 72 Try.t72 (.node 136 Try.t136 .nil .nil) (.node 200 Try.t200 .nil .nil)) (.node 104 Try.t104 (.node 168 Try.t168 .nil .nil) .nil)) (.node 56 Try.t56 (.node 88 Try.t88 (.node 152 Try.t152 .nil .nil) .nil) (.node 120 Try.t120 (.node 184 Try.t184 .nil .nil) .nil)))) (.node 12 Try.t12 (.node 20 Try.t20 (.node 36 Try.t36 (.node 68 Try.t68 (.node 132 Try.t132 .nil .nil) (.node 196 Try.t196 .nil .nil)) (.node 100 Try.t100 (.node 164 Try.t164 .nil .nil) .nil)) (.node 52 Try.t52 (.node 84 Try.t84 (.node 148 Try.t148 .nil .nil) .nil) (.node 116 Try.t116 (.node 180 Try.t180 .nil .nil) .nil))) (.node 28 Try.t28 (.node 44 Try.t44 (.node 76 Try.t76 (.node 140 Try.t140 .nil .nil) .nil) (.node 108 Try.t108 (.node 172 Try.t172 .nil .nil) .nil)) (.node 60 Try.t60 (.node 92 Try.t92 (.node 156 Try.t156 .nil .nil) .nil) (.node 124 Try.t124 (.node 188 Try.t188 .nil .nil) .nil))))) (.node 6 Try.t6 (.node 10 Try.t10 (.node 18 Try.t18 (.node 34 Try.t34 (.node 66 Try.t66 (.node 130 Try.t130 .nil .nil) (.node 194 Try.t194 .nil .nil)) (.node 98 Try.t98 (.node 162 Try.t162 .nil .nil) .nil)) (.node 50 Try.t50 (.node 82 Try.t82 (.node 146 Try.t146 .nil .nil) .nil) (.node 114 Try.t114 (.node 178 Try.t178 .nil .nil) .nil))) (.node 26 Try.t26 (.node 42 Try.t42 (.node 74 Try.t74 (.node 138 Try.t138 .nil .nil) .nil) (.node 106 Try.t106 (.node 170 Try.t170 .nil .nil) .nil)) (.node 58 Try.t58 (.node 90 Try.t90 (.node 154 Try.t154 .nil .nil) .nil) (.node 122 Try.t122 (.node 186 Try.t186 .nil .nil) .nil)))) (.node 14 Try.t14 (.node 22 Try.t22 (.node 38 Try.t38 (.node 70 Try.t70 (.node 134 Try.t134 .nil .nil) (.node 198 Try.t198 .nil .nil)) (.node 102 Try.t102 (.node 166 Try.t166 .nil .nil) .nil)) (.node 54 Try.t54 (.node 86 Try.t86 (.node 150 Try.t150 .nil .nil) .nil) (.node 118 Try.t118 (.node 182 Try.t182 .nil .nil) .nil))) (.node 30 Try.t30 (.node 46 Try.t46 (.node 78 Try.t78 (.node 142 Try.t142 .nil .nil) .nil) (.node 110 Try.t110 (.node 174 Try.t174 .nil .nil) .nil)) (.node 62 Try.t62 (.node 94 Try.t94 (.node 158 Try.t158 .nil .nil) .nil) (.node 126 Try.t126 (.node 190 Try.t190 .nil .nil) .nil)))))))
noncomputable def fnTree : Tr Func := (.node 0 Try.f0 (.node 1 Try.f1 (.node 3 Try.f3 (.node 7 Try.f7 (.node 15 Try.f15 (.node 31 Try.f31 (.node 63 Try.f63 (.node 127 Try.f127 .nil .nil) .nil) (.node 95 Try.f95 .nil .nil)) (.node 47 Try.f47 (.node 79 Try.f79 (.node 143 Try.f143 .nil .nil) .nil) (.node 111 Try.f111 .nil .nil))) (.node 23 Try.f23 (.node 39 Try.f39 (.node 71 Try.f71 (.node 135 Try.f135 .nil .nil) .nil) (.node 103 Try.f103 .nil .nil)) (.node 55 Try.f55 (.node 87 Try.f87 .nil .nil) (.node 119 Try.f119 .nil .nil)))) (.node 11 Try.f11 (.node 19 Try.f19 (.node 35 Try.f35 (.node 67 Try.f67 (.node 131 Try.f131 .nil .nil) .nil) (.node 99 Try.f99 .nil .nil)) (.node 51 Try.f51 (.node 83 Try.f83 (.node 147 Try.f147 .nil .nil) .nil) (.node 115 Try.f115 .nil .nil))) (.node 27 Try.f27 (.node 43 Try.f43 (.node 75 Try.f75 (.node 139 Try.f139 .nil .nil) .nil) (.node 107 Try.f107 .nil .nil)) (.node 59 Try.f59 (.node 91 Try.f91 .nil .nil) (.node 123 Try.f123 .nil .nil))))) (.node 5 Try.f5 (.node 9 Try.f9 (.node 17 Try.f17 (.node 33 Try.f33 (.node 65 Try.f65 (.node 129 Try.f129 .nil .nil) .nil) (.node 97 Try.f97 .nil .nil)) (.node 49 Try.f49 (.node 81 Try.f81 (.node 145 Try.f145 .nil .nil) .nil) (.node 113 Try.f113 .nil .nil))) (.node 25 Try.f25 (.node 41 Try.f41 (.node 73 Try.f73 (.node 137 Try.f137 .nil .nil) .nil) (.node 105 Try.f105 .nil .nil)) (.node 57 Try.f57 (.node 89 Try.f89 .nil .nil) (.node 121 Try.f121 .nil .nil)))) (.node 13 Try.f13 (.node 21 Try.f21 (.node 37 Try.f37 (.node 69 Try.f69 (.node 133 Try.f133 .nil .nil) .nil) (.node 101 Try.f101 .nil .nil)) (.node 53 Try.f53 (.node 85 Try.f85 .nil .nil) (.node 117 Try.f117 .nil .nil))) (.node 29 Try.f29 (.node 45 Try.f45 (.node 77 Try.f77 (.node 141 Try.f141 .nil .nil) .nil) (.node 109 Try.f109 .nil .nil)) (.node 61 Try.f61 (.node 93 Try.f93 .nil .nil) (.node 125 Try.f125 .nil .nil)))))) (.node 2 Try.f2 (.node 4 Try.f4 (.node 8 Try.f8 (.node 16 Try.f16 (.node 32 Try.f32 (.node 64 Try.f64 (.node 128 Try.f128 .nil .nil) .nil) (.node 96 Try.f96 .nil .nil)) (.node 48 Try.f48 (.node 80 Try.f80 (.node 144 Try.f144 .nil .nil) .nil) (.node 112 Try.f112 .nil .nil))) (.node 24 Try.f24 (.node 40 Try.f40 (.node 72 Try.f72 (.node 136 Try.f136 .nil .nil) .nil) (.node 104 Try.f104 .nil .nil)) (.node 56 Try.f56 (.node 88 Try.f88 .nil .nil) (.node 120 Try.f120 .nil .nil)))) (.node 12 Try.f12 (.node 20 Try.f20 (.node 36 Try.f36 (.node 68 Try.f68 (.node 132 Try.f132 .nil .nil) .nil) (.node 100 Try.f100 .nil .nil)) (.node 52 Try.f52 (.node 84 Try.f84 .nil .nil) (.node 116 Try.f116 .nil .nil))) (.node 28 Try.f28 (.node 44 Try.f44 (.node 76 Try.f76 (.node 140 Try.f140 .nil .nil) .nil) (.node 108 Try.f108 .nil .nil)) (.node 60 Try.f60 (.node 92 Try.f92 .nil .nil) (.node 124 Try.f124 .nil .nil))))) (.node 6 Try.f6 (.node 10 Try.f10 (.node 18 Try.f18 (.node 34 Try.f34 (.node 66 Try.f66 (.node 130 Try.f130 .nil .nil) .nil) (.node 98 Try.f98 .nil .nil)) (.node 50 Try.f50 (.node 82 Try.f82 (.node 146 Try.f146 .nil .nil) .nil) (.node 114 Try.f114 .nil .nil))) (.node 26 Try.f26 (.node 42 Try.f42 (.node 74 Try.f74 (.node 138 Try.f138 .nil .nil) .nil) (.node 106 Try.f106 .nil .nil)) (.node 58 Try.f58 (.node 90 Try.f90 .nil .nil) (.node 122 Try.f122 .nil .nil)))) (.node 14 Try.f14 (.node 22 Try.f22 (.node 38 Try.f38 (.node 70 Try.f70 (.node 134 Try.f134 .nil .nil) .nil) (.node 102 Try.f102 .nil .nil)) (.node 54 Try.f54 (.node 86 Try.f86 .nil .nil) (.node 118 Try.f118 .nil .nil))) (.node 30 Try.f30 (.node 46 Try.f46 (.node 78 Try.f78 (.node 142 Try.f142 .nil .nil) .nil) (.node 110 Try.f110 .nil .nil)) (.node 62 Try.f62 (.node 94 Try.f94 .nil .nil) (.node 126 Try.f126 .nil .nil)))))))
noncomputable def tab : Tab := tabOf tyTree fnTree
theorem nm0 : (Try.f0.name == "runtime.NumGoroutine") = false := by kernel_rfl
theorem nm1 : (Try.f1.name == "runtime.NumGoroutine") = false := by kernel_rfl
theorem nm2 : (Try.f2.name == "runtime.NumGoroutine") = false := by kernel_rfl
theorem nm3 : (Try.f3.name == "runtime.NumGoroutine") = false := by kernel_rfl
theorem nm4 : (Try.f4.name == "runtime.NumGoroutine") = false := by kernel_rfl
theorem nm5 : (Try.f5.name == "runtime.NumGoroutine") = false := by kernel_rfl
theorem nm6 : (Try.f6.name == "runtime.NumGoroutine") = false := by kernel_rfl
theorem nm7 : (Try.f7.name == "runtime.NumGoroutine") = false := by kernel_rfl
theorem nm8 : (Try.f8.name == "runtime.NumGoroutine") = false := by kernel_rfl
theorem nm9 : (Try.f9.name == "runtime.NumGoroutine") = false := by kernel_rfl
theorem nm10 : (Try.f10.name == "runtime.NumGoroutine") = false := by kernel_rfl
theorem nm11 : (Try.f11.name == "runtime.NumGoroutine") = false := by kernel_rfl
theorem nm12 : (Try.f12.name == "runtime.NumGoroutine") = false := by kernel_rfl
theorem nm13 : (Try.f13.name == "runtime.NumGoroutine") = false := by kernel_rfl
theorem nm14 : (Try.f14.name == "runtime.NumGoroutine") = false := by kernel_rfl
theorem nm15 : (Try.f15.name == "runtime.NumGoroutine") = false := by kernel_rfl
theorem nm16 : (Try.f16.name == "runtime.NumGoroutine") = false := by kernel_rfl
theorem nm17 : (Try.f17.name == "runtime.NumGoroutine") = false := by kernel_rfl
theorem nm18 : (Try.f18.name == "runtime.NumGoroutine") = false := by kernel_rfl
theorem nm19 : (Try.f19.name == "runtime.NumGoroutine") = false := by kernel_rfl
theorem nm20 : (Try.f20.name == "runtime.NumGoroutine") = false := by kernel_rfl
theorem nm21 : (Try.f21.name == "runtime.NumGoroutine") = false := by kernel_rfl
theorem nm22 : (Try.f22.name == "runtime.NumGoroutine") = false := by kernel_rfl
theorem nm23 : (Try.f23.name == "runtime.NumGoroutine") = false := by kernel_rfl
theorem nm24 : (Try.f24.name == "runtime.NumGoroutine") = false := by kernel_rfl
theorem nm25 : (Try.f25.name == "runtime.NumGoroutine") = false := by kernel_rfl
theorem nm26 : (Try.f26.name == "runtime.NumGoroutine") = false := by kernel_rfl
theorem nm27 : (Try.f27.name == "runtime.NumGoroutine") = false := by kernel_rfl
theorem nm28 : (Try.f28.name == "runtime.NumGoroutine") = false := by kernel_rfl
theorem nm29 : (Try.f29.name == "runtime.NumGoroutine") = false := by kernel_rfl
theorem nm30 : (Try.f30.name == "runtime.NumGoroutine") = false := by kernel_rfl
theorem nm31 : (Try.f31.name == "runtime.NumGoroutine") = false := by kernel_rfl
theorem nm32 : (Try.f32.name == "runtime.NumGoroutine") = false := by kernel_rfl
theorem nm33 : (Try.f33.name == "runtime.NumGoroutine") = false := by kernel_rfl
theorem nm34 : (Try.f34.name == "runtime.NumGoroutine") = false := by kernel_rfl
theorem nm35 : (Try.f35.name == "runtime.NumGoroutine") = false := by kernel_rfl
theorem nm36 : (Try.f36.name == "runtime.NumGoroutine") = false := by kernel_rfl
theorem nm37 : (Try.f37.name == "runtime.NumGoroutine") = false := by kernel_rfl
theorem nm38 : (Try.f38.name == "runtime.NumGoroutine") = false := by kernel_rfl
theorem nm39 : (Try.f39.name == "runtime.NumGoroutine") = false := by kernel_rfl
theorem nm40 : (Try.f40.name == "runtime.NumGoroutine") = false := by kernel_rfl
theorem nm41 : (Try.f41.name == "runtime.NumGoroutine") = false := by kernel_rfl
theorem nm42 : (Try.f42.name == "runtime.NumGoroutine") = false := by kernel_rfl
theorem nm43 : (Try.f43.name == "runtime.NumGoroutine") = false := by kernel_rfl
theorem nm44 : (Try.f44.name == "runtime.NumGoroutine") = false := by kernel_rfl
theorem nm45 : (Try.f45.name == "runtime.NumGoroutine") = false := by kernel_rfl
theorem nm46 : (Try.f46.name == "runtime.NumGoroutine") = false := by kernel_rfl
theorem nm47 : (Try.f47.name == "runtime.NumGoroutine") = false := by kernel_rfl
theorem nm48 : (Try.f48.name == "runtime.NumGoroutine") = false := by kernel_rfl
theorem nm49 : (Try.f49.name == "runtime.NumGoroutine") = false := by kernel_rfl
theorem nm50 : (Try.f50.name == "runtime.NumGoroutine") = false := by kernel_rfl
theorem nm51 : (Try.f51.name == "runtime.NumGoroutine") = false := by kernel_rfl
theorem nm52 : (Try.f52.name == "runtime.NumGoroutine") = false := by kernel_rfl
theorem nm53 : (Try.f53.name == "runtime.NumGoroutine") = false := by kernel_rfl
theorem nm54 : (Try.f54.name == "runtime.NumGoroutine") = false := by kernel_rfl
theorem nm55 : (Try.f55.name == "runtime.NumGoroutine") = false := by kernel_rfl
theorem nm56 : (Try.f56.name == "runtime.NumGoroutine") = false := by kernel_rfl
theorem nm57 : (Try.f57.name == "runtime.NumGoroutine") = false := by kernel_rfl
theorem nm58 : (Try.f58.name == "runtime.NumGoroutine") = false := by kernel_rfl
theorem nm59 : (Try.f59.name == "runtime.NumGoroutine") = false := by kernel_rfl
theorem nm60 : (Try.f60.name == "runtime.NumGoroutine") = false := by kernel_rfl
theorem nm61 : (Try.f61.name == "runtime.NumGoroutine") = false := by kernel_rfl
theorem nm62 : (Try.f62.name == "runtime.NumGoroutine") = false := by kernel_rfl
theorem nm63 : (Try.f63.name == "runtime.NumGoroutine") = false := by kernel_rfl
theorem nm64 : (Try.f64.name == "runtime.NumGoroutine") = false := by kernel_rfl
theorem nm65 : (Try.f65.name == "runtime.NumGoroutine") = false := by kernel_rfl
theorem nm66 : (Try.f66.name == "runtime.NumGoroutine") = false := by kernel_rfl
theorem nm67 : (Try.f67.name == "runtime.NumGoroutine") = false := by kernel_rfl
theorem nm68 : (Try.f68.name == "runtime.NumGoroutine") = false := by kernel_rfl
theorem nm69 : (Try.f69.name == "runtime.NumGoroutine") = false := by kernel_rfl
theorem nm70 : (Try.f70.name == "runtime.NumGoroutine") = false := by kernel_rfl
theorem nm71 : (Try.f71.name == "runtime.NumGoroutine") = false := by kernel_rfl
theorem nm72 : (Try.f72.name == "runtime.NumGoroutine") = false := by kernel_rfl
theorem nm73 : (Try.f73.name == "runtime.NumGoroutine") = false := by kernel_rfl
theorem nm74 : (Try.f74.name == "runtime.NumGoroutine") = false := by kernel_rfl
theorem nm75 : (Try.f75.name == "runtime.NumGoroutine") = false := by kernel_rfl
theorem nm76 : (Try.f76.name == "runtime.NumGoroutine") = false := by kernel_rfl
theorem nm77 : (Try.f77.name == "runtime.NumGoroutine") = false := by kernel_rfl
theorem nm78 : (Try.f78.name == "runtime.NumGoroutine") = false := by kernel_rfl
theorem nm79 : (Try.f79.name == "runtime.NumGoroutine") = false := by kernel_rfl
theorem nm80 : (Try.f80.name == "runtime.NumGoroutine") = false := by kernel_rfl
theorem nm81 : (Try.f81.name == "runtime.NumGoroutine") = false := by kernel_rfl
theorem nm82 : (Try.f82.name == "runtime.NumGoroutine") = false := by kernel_rfl
theorem nm83 : (Try.f83.name == "runtime.NumGoroutine") = false := by kernel_rfl
theorem nm84 : (Try.f84.name == "runtime.NumGoroutine") = false := by kernel_rfl
theorem nm85 : (Try.f85.name == "runtime.NumGoroutine") = false := by kernel_rfl
theorem nm86 : (Try.f86.name == "runtime.NumGoroutine") = false := by kernel_rfl
theorem nm87 : (Try.f87.name == "runtime.NumGoroutine") = false := by kernel_rfl
theorem nm88 : (Try.f88.name == "runtime.NumGoroutine") = false := by kernel_rfl
theorem nm89 : (Try.f89.name == "runtime.NumGoroutine") = false := by kernel_rfl
theorem nm90 : (Try.f90.name == "runtime.NumGoroutine") = false := by kernel_rfl
theorem nm91 : (Try.f91.name == "runtime.NumGoroutine") = false := by kernel_rfl
theorem nm92 : (Try.f92.name == "runtime.NumGoroutine") = false := by kernel_rfl
theorem nm93 : (Try.f93.name == "runtime.NumGoroutine") = false := by kernel_rfl
theorem nm94 : (Try.f94.name == "runtime.NumGoroutine") = false := by kernel_rfl
theorem nm95 : (Try.f95.name == "runtime.NumGoroutine") = false := by kernel_rfl
theorem nm96 : (Try.f96.name == "runtime.NumGoroutine") = false := by kernel_rfl
theorem nm97 : (Try.f97.name == "runtime.NumGoroutine") = false := by kernel_rfl
theorem nm98 : (Try.f98.name == "runtime.NumGoroutine") = false := by kernel_rfl
theorem nm99 : (Try.f99.name == "runtime.NumGoroutine") = false := by kernel_rfl
theorem nm100 : (Try.f100.name == "runtime.NumGoroutine") = false := by kernel_rfl
theorem nm101 : (Try.f101.name == "runtime.NumGoroutine") = false := by kernel_rfl
theorem nm102 : (Try.f102.name == "runtime.NumGoroutine") = false := by kernel_rfl
theorem nm103 : (Try.f103.name == "runtime.NumGoroutine") = false := by kernel_rfl
theorem nm104 : (Try.f104.name == "runtime.NumGoroutine") = false := by kernel_rfl
theorem nm105 : (Try.f105.name == "runtime.NumGoroutine") = false := by kernel_rfl
theorem nm106 : (Try.f106.name == "runtime.NumGoroutine") = false := by kernel_rfl
theorem nm107 : (Try.f107.name == "runtime.NumGoroutine") = false := by kernel_rfl
theorem nm108 : (Try.f108.name == "runtime.NumGoroutine") = false := by kernel_rfl
theorem nm109 : (Try.f109.name == "runtime.NumGoroutine") = false := by kernel_rfl
theorem nm110 : (Try.f110.name == "runtime.NumGoroutine") = false := by kernel_rfl
theorem nm111 : (Try.f111.name == "runtime.NumGoroutine") = false := by kernel_rfl
theorem nm112 : (Try.f112.name == "runtime.NumGoroutine") = false := by kernel_rfl
theorem nm113 : (Try.f113.name == "runtime.NumGoroutine") = false := by kernel_rfl
theorem nm114 : (Try.f114.name == "runtime.NumGoroutine") = false := by kernel_rfl
theorem nm115 : (Try.f115.name == "runtime.NumGoroutine") = false := by kernel_rfl
theorem nm116 : (Try.f116.name == "runtime.NumGoroutine") = false := by kernel_rfl
theorem nm117 : (Try.f117.name == "runtime.NumGoroutine") = false := by kernel_rfl
theorem nm118 : (Try.f118.name == "runtime.NumGoroutine") = false := by kernel_rfl
theorem nm119 : (Try.f119.name == "runtime.NumGoroutine") = false := by kernel_rfl
theorem nm120 : (Try.f120.name == "runtime.NumGoroutine") = false := by kernel_rfl
theorem nm121 : (Try.f121.name == "runtime.NumGoroutine") = false := by kernel_rfl
theorem nm122 : (Try.f122.name == "runtime.NumGoroutine") = false := by kernel_rfl
theorem nm123 : (Try.f123.name == "runtime.NumGoroutine") = false := by kernel_rfl
theorem nm124 : (Try.f124.name == "runtime.NumGoroutine") = false := by kernel_rfl
theorem nm125 : (Try.f125.name == "runtime.NumGoroutine") = false := by kernel_rfl
theorem nm126 : (Try.f126.name == "runtime.NumGoroutine") = false := by kernel_rfl
theorem nm127 : (Try.f127.name == "runtime.NumGoroutine") = false := by kernel_rfl
theorem nm128 : (Try.f128.name == "runtime.NumGoroutine") = false := by kernel_rfl
theorem nm129 : (Try.f129.name == "runtime.NumGoroutine") = false := by kernel_rfl
theorem nm130 : (Try.f130.name == "runtime.NumGoroutine") = false := by kernel_rfl
theorem nm131 : (Try.f131.name == "runtime.NumGoroutine") = false := by kernel_rfl
theorem nm132 : (Try.f132.name == "runtime.NumGoroutine") = false := by kernel_rfl
theorem nm133 : (Try.f133.name == "runtime.NumGoroutine") = false := by kernel_rfl
theorem nm134 : (Try.f134.name == "runtime.NumGoroutine") = false := by kernel_rfl
theorem nm135 : (Try.f135.name == "runtime.NumGoroutine") = false := by kernel_rfl
theorem nm136 : (Try.f136.name == "runtime.NumGoroutine") = false := by kernel_rfl
theorem nm137 : (Try.f137.name == "runtime.NumGoroutine") = false := by kernel_rfl
theorem nm138 : (Try.f138.name == "runtime.NumGoroutine") = false := by kernel_rfl
theorem nm139 : (Try.f139.name == "runtime.NumGoroutine") = false := by kernel_rfl
theorem nm140 : (Try.f140.name == "runtime.NumGoroutine") = false := by kernel_rfl
theorem nm141 : (Try.f141.name == "runtime.NumGoroutine") = false := by kernel_rfl
theorem nm142 : (Try.f142.name == "runtime.NumGoroutine") = false := by kernel_rfl
theorem nm143 : (Try.f143.name == "runtime.NumGoroutine") = false := by kernel_rfl
theorem nm144 : (Try.f144.name == "runtime.NumGoroutine") = false := by kernel_rfl
theorem nm145 : (Try.f145.name == "runtime.NumGoroutine") = false := by kernel_rfl
theorem nm146 : (Try.f146.name == "runtime.NumGoroutine") = false := by kernel_rfl
theorem nm147 : (Try.f147.name == "runtime.NumGoroutine") = false := by kernel_rfl
theorem ti0 : Try.prog.info? 0 = some Try.t0 := by kernel_rfl
theorem ti1 : Try.prog.info? 1 = some Try.t1 := by kernel_rfl
theorem ti2 : Try.prog.info? 2 = some Try.t2 := by kernel_rfl
theorem ti3 : Try.prog.info? 3 = some Try.t3 := by kernel_rfl
theorem ti4 : Try.prog.info? 4 = some Try.t4 := by kernel_rfl
theorem ti5 : Try.prog.info? 5 = some Try.t5 := by kernel_rfl
theorem ti6 : Try.prog.info? 6 = some Try.t6 := by kernel_rfl
theorem ti7 : Try.prog.info? 7 = some Try.t7 := by kernel_rfl
theorem ti8 : Try.prog.info? 8 = some Try.t8 := by kernel_rfl
theorem ti9 : Try.prog.info? 9 = some Try.t9 := by kernel_rfl
theorem ti10 : Try.prog.info? 10 = some Try.t10 := by kernel_rfl
theorem ti11 : Try.prog.info? 11 = some Try.t11 := by kernel_rfl
theorem ti12 : Try.prog.info? 12 = some Try.t12 := by kernel_rfl
theorem ti13 : Try.prog.info? 13 = some Try.t13 := by kernel_rfl
theorem ti14 : Try.prog.info? 14 = some Try.t14 := by kernel_rfl
theorem ti15 : Try.prog.info? 15 = some Try.t15 := by kernel_rfl
theorem ti16 : Try.prog.info? 16 = some Try.t16 := by kernel_rfl
theorem ti17 : Try.prog.info? 17 = some Try.t17 := by kernel_rfl
theorem ti18 : Try.prog.info? 18 = some Try.t18 := by kernel_rfl
theorem ti19 : Try.prog.info? 19 = some Try.t19 := by kernel_rfl
theorem ti20 : Try.prog.info? 20 = some Try.t20 := by kernel_rfl
theorem ti21 : Try.prog.info? 21 = some Try.t21 := by kernel_rfl
theorem ti22 : Try.prog.info? 22 = some Try.t22 := by kernel_rfl
theorem ti23 : Try.prog.info? 23 = some Try.t23 := by kernel_rfl
theorem ti24 : Try.prog.info? 24 = some Try.t24 := by kernel_rfl
theorem ti25 : Try.prog.info? 25 = some Try.t25 := by kernel_rfl
theorem ti26 : Try.prog.info? 26 = some Try.t26 := by kernel_rfl
theorem ti27 : Try.prog.info? 27 = some Try.t27 := by kernel_rfl
theorem ti28 : Try.prog.info? 28 = some Try.t28 := by kernel_rfl
theorem ti29 : Try.prog.info? 29 = some Try.t29 := by kernel_rfl
theorem ti30 : Try.prog.info? 30 = some Try.t30 := by kernel_rfl
theorem ti31 : Try.prog.info? 31 = some Try.t31 := by kernel_rfl
theorem ti32 : Try.prog.info? 32 = some Try.t32 := by kernel_rfl
theorem ti33 : Try.prog.info? 33 = some Try.t33 := by kernel_rfl
theorem ti34 : Try.prog.info? 34 = some Try.t34 := by kernel_rfl
theorem ti35 : Try.prog.info? 35 = some Try.t35 := by kernel_rfl
theorem ti36 : Try.prog.info? 36 = some Try.t36 := by kernel_rfl
theorem ti37 : Try.prog.info? 37 = some Try.t37 := by kernel_rfl
theorem ti38 : Try.prog.info? 38 = some Try.t38 := by kernel_rfl
theorem ti39 : Try.prog.info? 39 = some Try.t39 := by kernel_rfl
theorem ti40 : Try.prog.info? 40 = some Try.t40 := by kernel_rfl
theorem ti41 : Try.prog.info? 41 = some Try.t41 := by kernel_rfl
theorem ti42 : Try.prog.info? 42 = some Try.t42 := by kernel_rfl
theorem ti43 : Try.prog.info? 43 = some Try.t43 := by kernel_rfl
theorem ti44 : Try.prog.info? 44 = some Try.t44 := by kernel_rfl
theorem ti45 : Try.prog.info? 45 = some Try.t45 := by kernel_rfl
theorem ti46 : Try.prog.info? 46 = some Try.t46 := by kernel_rfl
theorem ti47 : Try.prog.info? 47 = some Try.t47 := by kernel_rfl
theorem ti48 : Try.prog.info? 48 = some Try.t48 := by kernel_rfl
theorem ti49 : Try.prog.info? 49 = some Try.t49 := by kernel_rfl
theorem ti50 : Try.prog.info? 50 = some Try.t50 := by kernel_rfl
theorem ti51 : Try.prog.info? 51 = some Try.t51 := by kernel_rfl
theorem ti52 : Try.prog.info? 52 = some Try.t52 := by kernel_rfl
theorem ti53 : Try.prog.info? 53 = some Try.t53 := by kernel_rfl
theorem ti54 : Try.prog.info? 54 = some Try.t54 := by kernel_rfl
theorem ti55 : Try.prog.info? 55 = some Try.t55 := by kernel_rfl
theorem ti56 : Try.prog.info? 56 = some Try.t56 := by kernel_rfl
theorem ti57 : Try.prog.info? 57 = some Try.t57 := by kernel_rfl
theorem ti58 : Try.prog.info? 58 = some Try.t58 := by kernel_rfl
theorem ti59 : Try.prog.info? 59 = some Try.t59 := by kernel_rfl
theorem ti60 : Try.prog.info? 60 = some Try.t60 := by kernel_rfl
theorem ti61 : Try.prog.info? 61 = some Try.t61 := by kernel_rfl
theorem ti62 : Try.prog.info? 62 = some Try.t62 := by kernel_rfl
theorem ti63 : Try.prog.info? 63 = some Try.t63 := by kernel_rfl
theorem ti64 : Try.prog.info? 64 = some Try.t64 := by kernel_rfl
theorem ti65 : Try.prog.info? 65 = some Try.t65 := by kernel_rfl
theorem ti66 : Try.prog.info? 66 = some Try.t66 := by kernel_rfl
theorem ti67 : Try.prog.info? 67 = some Try.t67 := by kernel_rfl
theorem ti68 : Try.prog.info? 68 = some Try.t68 := by kernel_rfl
theorem ti69 : Try.prog.info? 69 = some Try.t69 := by kernel_rfl
theorem ti70 : Try.prog.info? 70 = some Try.t70 := by kernel_rfl
theorem ti71 : Try.prog.info? 71 = some Try.t71 := by kernel_rfl
theorem ti72 : Try.prog.info? 72 = some Try.t72 := by kernel_rfl
theorem ti73 : Try.prog.info? 73 = some Try.t73 := by kernel_rfl
theorem ti74 : Try.prog.info? 74 = some Try.t74 := by kernel_rfl
theorem ti75 : Try.prog.info? 75 = some Try.t75 := by kernel_rfl
theorem ti76 : Try.prog.info? 76 = some Try.t76 := by kernel_rfl
theorem ti77 : Try.prog.info? 77 = some Try.t77 := by kernel_rfl
theorem ti78 : Try.prog.info? 78 = some Try.t78 := by kernel_rfl
theorem ti79 : Try.prog.info? 79 = some Try.t79 := by kernel_rfl
theorem ti80 : Try.prog.info? 80 = some Try.t80 := by kernel_rfl
theorem ti81 : Try.prog.info? 81 = some Try.t81 := by kernel_rfl
theorem ti82 : Try.prog.info? 82 = some Try.t82 := by kernel_rfl
theorem ti83 : Try.prog.info? 83 = some Try.t83 := by kernel_rfl
theorem ti84 : Try.prog.info? 84 = some Try.t84 := by kernel_rfl
theorem ti85 : Try.prog.info? 85 = some Try.t85 := by kernel_rfl
theorem ti86 : Try.prog.info? 86 = some Try.t86 := by kernel_rfl
theorem ti87 : Try.prog.info? 87 = some Try.t87 := by kernel_rfl
theorem ti88 : Try.prog.info? 88 = some Try.t88 := by kernel_rfl
theorem ti89 : Try.prog.info? 89 = some Try.t89 := by kernel_rfl
theorem ti90 : Try.prog.info? 90 = some Try.t90 := by kernel_rfl
theorem ti91 : Try.prog.info? 91 = some Try.t91 := by kernel_rfl
theorem ti92 : Try.prog.info? 92 = some Try.t92 := by kernel_rfl
theorem ti93 : Try.prog.info? 93 = some Try.t93 := by kernel_rfl
theorem ti94 : Try.prog.info? 94 = some Try.t94 := by kernel_rfl
theorem ti95 : Try.prog.info? 95 = some Try.t95 := by kernel_rfl
theorem ti96 : Try.prog.info? 96 = some Try.t96 := by kernel_rfl
theorem ti97 : Try.prog.info? 97 = some Try.t97 := by kernel_rfl
theorem ti98 : Try.prog.info? 98 = some Try.t98 := by kernel_rfl
theorem ti99 : Try.prog.info? 99 = some Try.t99 := by kernel_rfl
theorem ti100 : Try.prog.info? 100 = some Try.t100 := by kernel_rfl
theorem ti101 : Try.prog.info? 101 = some Try.t101 := by kernel_rfl
theorem ti102 : Try.prog.info? 102 = some Try.t102 := by kernel_rfl
theorem ti103 : Try.prog.info? 103 = some Try.t103 := by kernel_rfl
theorem ti104 : Try.prog.info? 104 = some Try.t104 := by kernel_rfl
theorem ti105 : Try.prog.info? 105 = some Try.t105 := by kernel_rfl
theorem ti106 : Try.prog.info? 106 = some Try.t106 := by kernel_rfl
theorem ti107 : Try.prog.info? 107 = some Try.t107 := by kernel_rfl
theorem ti108 : Try.prog.info? 108 = some Try.t108 := by kernel_rfl
theorem ti109 : Try.prog.info? 109 = some Try.t109 := by kernel_rfl
theorem ti110 : Try.prog.info? 110 = some Try.t110 := by kernel_rfl
theorem ti111 : Try.prog.info? 111 = some Try.t111 := by kernel_rfl
theorem ti112 : Try.prog.info? 112 = some Try.t112 := by kernel_rfl
theorem ti113 : Try.prog.info? 113 = some Try.t113 := by kernel_rfl
theorem ti114 : Try.prog.info? 114 = some Try.t114 := by kernel_rfl
theorem ti115 : Try.prog.info? 115 = some Try.t115 := by kernel_rfl
theorem ti116 : Try.prog.info? 116 = some Try.t116 := by kernel_rfl
theorem ti117 : Try.prog.info? 117 = some Try.t117 := by kernel_rfl
theorem ti118 : Try.prog.info? 118 = some Try.t118 := by kernel_rfl
theorem ti119 : Try.prog.info? 119 = some Try.t119 := by kernel_rfl
theorem ti120 : Try.prog.info? 120 = some Try.t120 := by kernel_rfl
theorem ti121 : Try.prog.info? 121 = some Try.t121 := by kernel_rfl
theorem ti122 : Try.prog.info? 122 = some Try.t122 := by kernel_rfl
theorem ti123 : Try.prog.info? 123 = some Try.t123 := by kernel_rfl
theorem ti124 : Try.prog.info? 124 = some Try.t124 := by kernel_rfl
theorem ti125 : Try.prog.info? 125 = some Try.t125 := by kernel_rfl
theorem ti126 : Try.prog.info? 126 = some Try.t126 := by kernel_rfl
theorem ti127 : Try.prog.info? 127 = some Try.t127 := by kernel_rfl
theorem ti128 : Try.prog.info? 128 = some Try.t128 := by kernel_rfl
theorem ti129 : Try.prog.info? 129 = some Try.t129 := by kernel_rfl
theorem ti130 : Try.prog.info? 130 = some Try.t130 := by kernel_rfl
theorem ti131 : Try.prog.info? 131 = some Try.t131 := by kernel_rfl
theorem ti132 : Try.prog.info? 132 = some Try.t132 := by kernel_rfl
theorem ti133 : Try.prog.info? 133 = some Try.t133 := by kernel_rfl
theorem ti134 : Try.prog.info? 134 = some Try.t134 := by kernel_rfl
theorem ti135 : Try.prog.info? 135 = some Try.t135 := by kernel_rfl
theorem ti136 : Try.prog.info? 136 = some Try.t136 := by kernel_rfl
theorem ti137 : Try.prog.info? 137 = some Try.t137 := by kernel_rfl
theorem ti138 : Try.prog.info? 138 = some Try.t138 := by kernel_rfl
theorem ti139 : Try.prog.info? 139 = some Try.t139 := by kernel_rfl
theorem ti140 : Try.prog.info? 140 = some Try.t140 := by kernel_rfl
theorem ti141 : Try.prog.info? 141 = some Try.t141 := by kernel_rfl
theorem ti142 : Try.prog.info? 142 = some Try.t142 := by kernel_rfl
theorem ti143 : Try.prog.info? 143 = some Try.t143 := by kernel_rfl
theorem ti144 : Try.prog.info? 144 = some Try.t144 := by kernel_rfl
theorem ti145 : Try.prog.info? 145 = some Try.t145 := by kernel_rfl
theorem ti146 : Try.prog.info? 146 = some Try.t146 := by kernel_rfl
theorem ti147 : Try.prog.info? 147 = some Try.t147 := by kernel_rfl
theorem ti148 : Try.prog.info? 148 = some Try.t148 := by kernel_rfl
theorem ti149 : Try.prog.info? 149 = some Try.t149 := by kernel_rfl
theorem ti150 : Try.prog.info? 150 = some Try.t150 := by kernel_rfl
theorem ti151 : Try.prog.info? 151 = some Try.t151 := by kernel_rfl
theorem ti152 : Try.prog.info? 152 = some Try.t152 := by kernel_rfl
theorem ti153 : Try.prog.info? 153 = some Try.t153 := by kernel_rfl
theorem ti154 : Try.prog.info? 154 = some Try.t154 := by kernel_rfl
theorem ti155 : Try.prog.info? 155 = some Try.t155 := by kernel_rfl
theorem ti156 : Try.prog.info? 156 = some Try.t156 := by kernel_rfl
theorem ti157 : Try.prog.info? 157 = some Try.t157 := by kernel_rfl
theorem ti158 : Try.prog.info? 158 = some Try.t158 := by kernel_rfl
theorem ti159 : Try.prog.info? 159 = some Try.t159 := by kernel_rfl
theorem ti160 : Try.prog.info? 160 = some Try.t160 := by kernel_rfl
theorem ti161 : Try.prog.info? 161 = some Try.t161 := by kernel_rfl
theorem ti162 : Try.prog.info? 162 = some Try.t162 := by kernel_rfl
theorem ti163 : Try.prog.info? 163 = some Try.t163 := by kernel_rfl
theorem ti164 : Try.prog.info? 164 = some Try.t164 := by kernel_rfl
theorem ti165 : Try.prog.info? 165 = some Try.t165 := by kernel_rfl
theorem ti166 : Try.prog.info? 166 = some Try.t166 := by kernel_rfl
theorem ti167 : Try.prog.info? 167 = some Try.t167 := by kernel_rfl
theorem ti168 : Try.prog.info? 168 = some Try.t168 := by kernel_rfl
theorem ti169 : Try.prog.info? 169 = some Try.t169 := by kernel_rfl
theorem ti170 : Try.prog.info? 170 = some Try.t170 := by kernel_rfl
theorem ti171 : Try.prog.info? 171 = some Try.t171 := by kernel_rfl
theorem ti172 : Try.prog.info? 172 = some Try.t172 := by kernel_rfl
theorem ti173 : Try.prog.info? 173 = some Try.t173 := by kernel_rfl
theorem ti174 : Try.prog.info? 174 = some Try.t174 := by kernel_rfl
theorem ti175 : Try.prog.info? 175 = some Try.t175 := by kernel_rfl
theorem ti176 : Try.prog.info? 176 = some Try.t176 := by kernel_rfl
theorem ti177 : Try.prog.info? 177 = some Try.t177 := by kernel_rfl
theorem ti178 : Try.prog.info? 178 = some Try.t178 := by kernel_rfl
theorem ti179 : Try.prog.info? 179 = some Try.t179 := by kernel_rfl
theorem ti180 : Try.prog.info? 180 = some Try.t180 := by kernel_rfl
theorem ti181 : Try.prog.info? 181 = some Try.t181 := by kernel_rfl
theorem ti182 : Try.prog.info? 182 = some Try.t182 := by kernel_rfl
theorem ti183 : Try.prog.info? 183 = some Try.t183 := by kernel_rfl
theorem ti184 : Try.prog.info? 184 = some Try.t184 := by kernel_rfl
theorem ti185 : Try.prog.info? 185 = some Try.t185 := by kernel_rfl
theorem ti186 : Try.prog.info? 186 = some Try.t186 := by kernel_rfl
theorem ti187 : Try.prog.info? 187 = some Try.t187 := by kernel_rfl
theorem ti188 : Try.prog.info? 188 = some Try.t188 := by kernel_rfl
theorem ti189 : Try.prog.info? 189 = some Try.t189 := by kernel_rfl
theorem ti190 : Try.prog.info? 190 = some Try.t190 := by kernel_rfl
theorem ti191 : Try.prog.info? 191 = some Try.t191 := by kernel_rfl
theorem ti192 : Try.prog.info? 192 = some Try.t192 := by kernel_rfl
theorem ti193 : Try.prog.info? 193 = some Try.t193 := by kernel_rfl
theorem ti194 : Try.prog.info? 194 = some Try.t194 := by kernel_rfl
theorem ti195 : Try.prog.info? 195 = some Try.t195 := by kernel_rfl
theorem ti196 : Try.prog.info? 196 = some Try.t196 := by kernel_rfl
theorem ti197 : Try.prog.info? 197 = some Try.t197 := by kernel_rfl
theorem ti198 : Try.prog.info? 198 = some Try.t198 := by kernel_rfl
theorem ti199 : Try.prog.info? 199 = some Try.t199 := by kernel_rfl
theorem ti200 : Try.prog.info? 200 = some Try.t200 := by kernel_rfl
theorem ti201 : Try.prog.info? 201 = some Try.t201 := by kernel_rfl
theorem tyAll : tyTree.all (fun k i => Try.prog.info? k = some i) :=
 ⟨ti0, ⟨ti1, ⟨ti3, ⟨ti7, ⟨ti15, ⟨ti31, ⟨ti63, ⟨ti127, trivial, trivial⟩, ⟨ti191, trivial, trivial⟩⟩, ⟨ti95, ⟨ti159, trivial, trivial⟩, trivial⟩⟩, ⟨ti47, ⟨ti79, ⟨ti143, trivial, trivial⟩, trivial⟩, ⟨ti111, ⟨ti175, trivial, trivial⟩, trivial⟩⟩⟩, ⟨ti23, ⟨ti39, ⟨ti71, ⟨ti135, trivial, trivial⟩, ⟨ti199, trivial, trivial⟩⟩, ⟨ti103, ⟨ti167, trivial, trivial⟩, trivial⟩⟩, ⟨ti55, ⟨ti87, ⟨ti151, trivial, trivial⟩, trivial⟩, ⟨ti119, ⟨ti183, trivial, trivial⟩, trivial⟩⟩⟩⟩, ⟨ti11, ⟨ti19, ⟨ti35, ⟨ti67, ⟨ti131, trivial, trivial⟩, ⟨ti195, trivial, trivial⟩⟩, ⟨ti99, ⟨ti163, trivial, trivial⟩, trivial⟩⟩, ⟨ti51, ⟨ti83, ⟨ti147, trivial, trivial⟩, trivial⟩, ⟨ti115, ⟨ti179, trivial, trivial⟩, trivial⟩⟩⟩, ⟨ti27, ⟨ti43, ⟨ti75, ⟨ti139, trivial, trivial⟩, trivial⟩, ⟨ti107, ⟨ti171, trivial, trivial⟩, trivial⟩⟩, ⟨ti59, ⟨ti91, ⟨ti155, trivial, trivial⟩, trivial⟩, ⟨ti123, ⟨ti187, trivial, trivial⟩, trivial⟩⟩⟩⟩⟩, ⟨ti5, ⟨ti9, ⟨ti17, ⟨ti33, ⟨ti65, ⟨ti129, trivial, trivial⟩, ⟨ti193, trivial, trivial⟩⟩, ⟨ti97, ⟨ti161, trivial, trivial⟩, trivial⟩⟩, ⟨ti49, ⟨ti81, ⟨ti145, trivial, trivial⟩, trivial⟩, ⟨ti113, ⟨ti177, trivial, trivial⟩, trivial⟩⟩⟩, ⟨ti25, ⟨ti41, ⟨ti73, ⟨ti137, trivial, trivial⟩, ⟨ti201, trivial, trivial⟩⟩, ⟨ti105, ⟨ti169, trivial, trivial⟩, trivial⟩⟩, ⟨ti57, ⟨ti89, ⟨ti153, trivial, trivial⟩, trivial⟩, ⟨ti121, ⟨ti185, trivial, trivial⟩, trivial⟩⟩⟩⟩, ⟨ti13, ⟨ti21, ⟨ti37, ⟨ti69, ⟨ti133, trivial, trivial⟩, ⟨ti197, trivial, trivial⟩⟩, ⟨ti101, ⟨ti165, trivial, trivial⟩, trivial⟩⟩, ⟨ti53, ⟨ti85, ⟨ti149, trivial, trivial⟩, trivial⟩, ⟨ti117, ⟨ti181, trivial, trivial⟩, trivial⟩⟩⟩, ⟨ti29, ⟨ti45, ⟨ti77, ⟨ti141, trivial, trivial⟩, trivial⟩, ⟨ti109, ⟨ti173, trivial, trivial⟩, trivial⟩⟩, ⟨ti61, ⟨ti93, ⟨ti157, trivial, trivial⟩, trivial⟩, ⟨ti125, ⟨ti189, trivial, trivial⟩, trivial⟩⟩⟩⟩⟩⟩, ⟨ti2, ⟨ti4, ⟨ti8, ⟨ti16, ⟨ti32, ⟨ti64, ⟨ti128, trivial, trivial⟩, ⟨ti192, trivial, trivial⟩⟩, ⟨ti96, ⟨ti160, trivial, trivial⟩, trivial⟩⟩, ⟨ti48, ⟨ti80, ⟨ti144, trivial, trivial⟩, trivial⟩, ⟨ti112, ⟨ti176, trivial, trivial⟩, trivial⟩⟩⟩, ⟨ti24, ⟨ti40, ⟨ti72, ⟨ti136, trivial, trivial⟩, ⟨ti200, trivial, trivial⟩⟩, ⟨ti104, ⟨ti168, trivial, trivial⟩, trivial⟩⟩, ⟨ti56, ⟨ti88, ⟨ti152, trivial, trivial⟩, trivial⟩, ⟨ti120, ⟨ti184, trivial, trivial⟩, trivial⟩⟩⟩⟩, ⟨ti12, ⟨ti20, ⟨ti36, ⟨ti68, ⟨ti132, trivial, trivial⟩, ⟨ti196, trivial, trivial⟩⟩, ⟨ti100, ⟨ti164, trivial, trivial⟩, trivial⟩⟩, ⟨ti52, ⟨ti84, ⟨ti148, trivial, trivial⟩, trivial⟩, ⟨ti116, ⟨ti180, trivial, trivial⟩, trivial⟩⟩⟩, ⟨ti28, ⟨ti44, ⟨ti76, ⟨ti140, trivial, trivial⟩, trivial⟩, ⟨ti108, ⟨ti172, trivial, trivial⟩, trivial⟩⟩, ⟨ti60, ⟨ti92, ⟨ti156, trivial, trivial⟩, trivial⟩, ⟨ti124, ⟨ti188, trivial, trivial⟩, trivial⟩⟩⟩⟩⟩, ⟨ti6, ⟨ti10, ⟨ti18, ⟨ti34, ⟨ti66, ⟨ti130, trivial, trivial⟩, ⟨ti194, trivial, trivial⟩⟩, ⟨ti98, ⟨ti162, trivial, trivial⟩, trivial⟩⟩, ⟨ti50, ⟨ti82, ⟨ti146, trivial, trivial⟩, trivial⟩, ⟨ti114, ⟨ti178, trivial, trivial⟩, trivial⟩⟩⟩, ⟨ti26, ⟨ti42, ⟨ti74, ⟨ti138, trivial, trivial⟩, trivial⟩, ⟨ti106, ⟨ti170, trivial, trivial⟩, trivial⟩⟩, ⟨ti58, ⟨ti90, ⟨ti154, trivial, trivial⟩, trivial⟩, ⟨ti122, ⟨ti186, trivial, trivial⟩, trivial⟩⟩⟩⟩, ⟨ti14, ⟨ti22, ⟨ti38, ⟨ti70, ⟨ti134, trivial, trivial⟩, ⟨ti198, trivial, trivial⟩⟩, ⟨ti102, ⟨ti166, trivial, trivial⟩, trivial⟩⟩, ⟨ti54, ⟨ti86, ⟨ti150, trivial, trivial⟩, trivial⟩, ⟨ti118, ⟨ti182, trivial, trivial⟩, trivial⟩⟩⟩, ⟨ti30, ⟨ti46, ⟨ti78, ⟨ti142, trivial, trivial⟩, trivial⟩, ⟨ti110, ⟨ti174, trivial, trivial⟩, trivial⟩⟩, ⟨ti62, ⟨ti94, ⟨ti158, trivial, trivial⟩, trivial⟩, ⟨ti126, ⟨ti190, trivial, trivial⟩, trivial⟩⟩⟩⟩⟩⟩⟩
theorem fnAll : fnTree.all (fun k g => Try.prog.funcs[k]? = some g ∧ (g.name == "runtime.NumGoroutine") = false) :=
 ⟨⟨Try.func0, nm0⟩, ⟨⟨Try.func1, nm1⟩, ⟨⟨Try.func3, nm3⟩, ⟨⟨Try.func7, nm7⟩, ⟨⟨Try.func15, nm15⟩, ⟨⟨Try.func31, nm31⟩, ⟨⟨Try.func63, nm63⟩, ⟨⟨Try.func127, nm127⟩, trivial, trivial⟩, trivial⟩, ⟨⟨Try.func95, nm95⟩, trivial, trivial⟩⟩, ⟨⟨Try.func47, nm47⟩, ⟨⟨Try.func79, nm79⟩, ⟨⟨Try.func143, nm143⟩, trivial, trivial⟩, trivial⟩, ⟨⟨Try.func111, nm111⟩, trivial, trivial⟩⟩⟩, ⟨⟨Try.func23, nm23⟩, ⟨⟨Try.func39, nm39⟩, ⟨⟨Try.func71, nm71⟩, ⟨⟨Try.func135, nm135⟩, trivial, trivial⟩, trivial⟩, ⟨⟨Try.func103, nm103⟩, trivial, trivial⟩⟩, ⟨⟨Try.func55, nm55⟩, ⟨⟨Try.func87, nm87⟩, trivial, trivial⟩, ⟨⟨Try.func119, nm119⟩, trivial, trivial⟩⟩⟩⟩, ⟨⟨Try.func11, nm11⟩, ⟨⟨Try.func19, nm19⟩, ⟨⟨Try.func35, nm35⟩, ⟨⟨Try.func67, nm67⟩, ⟨⟨Try.func131, nm131⟩, trivial, trivial⟩, trivial⟩, ⟨⟨Try.func99, nm99⟩, trivial, trivial⟩⟩, ⟨⟨Try.func51, nm51⟩, ⟨⟨Try.func83, nm83⟩, ⟨⟨Try.func147, nm147⟩, trivial, trivial⟩, trivial⟩, ⟨⟨Try.func115, nm115⟩, trivial, trivial⟩⟩⟩, ⟨⟨Try.func27, nm27⟩, ⟨⟨Try.func43, nm43⟩, ⟨⟨Try.func75, nm75⟩, ⟨⟨Try.func139, nm139⟩, trivial, trivial⟩, trivial⟩, ⟨⟨Try.func107, nm107⟩, trivial, trivial⟩⟩, ⟨⟨Try.func59, nm59⟩, ⟨⟨Try.func91, nm91⟩, trivial, trivial⟩, ⟨⟨Try.func123, nm123⟩, trivial, trivial⟩⟩⟩⟩⟩, ⟨⟨Try.func5, nm5⟩, ⟨⟨Try.func9, nm9⟩, ⟨⟨Try.func17, nm17⟩, ⟨⟨Try.func33, nm33⟩, ⟨⟨Try.func65, nm65⟩, ⟨⟨Try.func129, nm129⟩, trivial, trivial⟩, trivial⟩, ⟨⟨Try.func97, nm97⟩, trivial, trivial⟩⟩, ⟨⟨Try.func49, nm49⟩, ⟨⟨Try.func81, nm81⟩, ⟨⟨Try.func145, nm145⟩, trivial, trivial⟩, trivial⟩, ⟨⟨Try.func113, nm113⟩, trivial, trivial⟩⟩⟩, ⟨⟨Try.func25, nm25⟩, ⟨⟨Try.func41, nm41⟩, ⟨⟨Try.func73, nm73⟩, ⟨⟨Try.func137, nm137⟩, trivial, trivial⟩, trivial⟩, ⟨⟨Try.func105, nm105⟩, trivial, trivial⟩⟩, ⟨⟨Try.func57, nm57⟩, ⟨⟨Try.func89, nm89⟩, trivial, trivial⟩, ⟨⟨Try.func121, nm121⟩, trivial, trivial⟩⟩⟩⟩, ⟨⟨Try.func13, nm13⟩, ⟨⟨Try.func21, nm21⟩, ⟨⟨Try.func37, nm37⟩, ⟨⟨Try.func69, nm69⟩, ⟨⟨Try.func133, nm133⟩, trivial, trivial⟩, trivial⟩, ⟨⟨Try.func101, nm101⟩, trivial, trivial⟩⟩, ⟨⟨Try.func53, nm53⟩, ⟨⟨Try.func85, nm85⟩, trivial, trivial⟩, ⟨⟨Try.func117, nm117⟩, trivial, trivial⟩⟩⟩, ⟨⟨Try.func29, nm29⟩, ⟨⟨Try.func45, nm45⟩, ⟨⟨Try.func77, nm77⟩, ⟨⟨Try.func141, nm141⟩, trivial, trivial⟩, trivial⟩, ⟨⟨Try.func109, nm109⟩, trivial, trivial⟩⟩, ⟨⟨Try.func61, nm61⟩, ⟨⟨Try.func93, nm93⟩, trivial, trivial⟩, ⟨⟨Try.func125, nm125⟩, trivial, trivial⟩⟩⟩⟩⟩⟩, ⟨⟨Try.func2, nm2⟩, ⟨⟨Try.func4, nm4⟩, ⟨⟨Try.func8, nm8⟩, ⟨⟨Try.func16, nm16⟩, ⟨⟨Try.func32, nm32⟩, ⟨⟨Try.func64, nm64⟩, ⟨⟨Try.func128, nm128⟩, trivial, trivial⟩, trivial⟩, ⟨⟨Try.func96, nm96⟩, trivial, trivial⟩⟩, ⟨⟨Try.func48, nm48⟩, ⟨⟨Try.func80, nm80⟩, ⟨⟨Try.func144, nm144⟩, trivial, trivial⟩, trivial⟩, ⟨⟨Try.func112, nm112⟩, trivial, trivial⟩⟩⟩, ⟨⟨Try.func24, nm24⟩, ⟨⟨Try.func40, nm40⟩, ⟨⟨Try.func72, nm72⟩, ⟨⟨Try.func136, nm136⟩, trivial, trivial⟩, trivial⟩, ⟨⟨Try.func104, nm104⟩, trivial, trivial⟩⟩, ⟨⟨Try.func56, nm56⟩, ⟨⟨Try.func88, nm88⟩, trivial, trivial⟩, ⟨⟨Try.func120, nm120⟩, trivial, trivial⟩⟩⟩⟩, ⟨⟨Try.func12, nm12⟩, ⟨⟨Try.func20, nm20⟩, ⟨⟨Try.func36, nm36⟩, ⟨⟨Try.func68, nm68⟩, ⟨⟨Try.func132, nm132⟩, trivial, trivial⟩, trivial⟩, ⟨⟨Try.func100, nm100⟩, trivial, trivial⟩⟩, ⟨⟨Try.func52, nm52⟩, ⟨⟨Try.func84, nm84⟩, trivial, trivial⟩, ⟨⟨Try.func116, nm116⟩, trivial, trivial⟩⟩⟩, ⟨⟨Try.func28, nm28⟩, ⟨⟨Try.func44, nm44⟩, ⟨⟨Try.func76, nm76⟩, ⟨⟨Try.func140, nm140⟩, trivial, trivial⟩, trivial⟩, ⟨⟨Try.func108, nm108⟩, trivial, trivial⟩⟩, ⟨⟨Try.func60, nm60⟩, ⟨⟨Try.func92, nm92⟩, trivial, trivial⟩, ⟨⟨Try.func124, nm124⟩, trivial, trivial⟩⟩⟩⟩⟩, ⟨⟨Try.func6, nm6⟩, ⟨⟨Try.func10, nm10⟩, ⟨⟨Try.func18, nm18⟩, ⟨⟨Try.func34, nm34⟩, ⟨⟨Try.func66, nm66⟩, ⟨⟨Try.func130, nm130⟩, trivial, trivial⟩, trivial⟩, ⟨⟨Try.func98, nm98⟩, trivial, trivial⟩⟩, ⟨⟨Try.func50, nm50⟩, ⟨⟨Try.func82, nm82⟩, ⟨⟨Try.func146, nm146⟩, trivial, trivial⟩, trivial⟩, ⟨⟨Try.func114, nm114⟩, trivial, trivial⟩⟩⟩, ⟨⟨Try.func26, nm26⟩, ⟨⟨Try.func42, nm42⟩, ⟨⟨Try.func74, nm74⟩, ⟨⟨Try.func138, nm138⟩, trivial, trivial⟩, trivial⟩, ⟨⟨Try.func106, nm106⟩, trivial, trivial⟩⟩, ⟨⟨Try.func58, nm58⟩, ⟨⟨Try.func90, nm90⟩, trivial, trivial⟩, ⟨⟨Try.func122, nm122⟩, trivial, trivial⟩⟩⟩⟩, ⟨⟨Try.func14, nm14⟩, ⟨⟨Try.func22, nm22⟩, ⟨⟨Try.func38, nm38⟩, ⟨⟨Try.func70, nm70⟩, ⟨⟨Try.func134, nm134⟩, trivial, trivial⟩, trivial⟩, ⟨⟨Try.func102, nm102⟩, trivial, trivial⟩⟩, ⟨⟨Try.func54, nm54⟩, ⟨⟨Try.func86, nm86⟩, trivial, trivial⟩, ⟨⟨Try.func118, nm118⟩, trivial, trivial⟩⟩⟩, ⟨⟨Try.func30, nm30⟩, ⟨⟨Try.func46, nm46⟩, ⟨⟨Try.func78, nm78⟩, ⟨⟨Try.func142, nm142⟩, trivial, trivial⟩, trivial⟩, ⟨⟨Try.func110, nm110⟩, trivial, trivial⟩⟩, ⟨⟨Try.func62, nm62⟩, ⟨⟨Try.func94, nm94⟩, trivial, trivial⟩, ⟨⟨Try.func126, nm126⟩, trivial, trivial⟩⟩⟩⟩⟩⟩⟩
theorem tab_fits : tab.Fits Try.prog := tabOf_fits tyAll fnAll (by kernel_rfl)
end Go.Am
namespace Go.Am
open Go.Proofs
noncomputable def tabA : Tab := tab
theorem tabA_fits : tabA.Fits Try.prog := tab_fits
end Go.Am
namespace Go.Am
open Go.Proofs
theorem st_alS_119 : alS tabA 119 = some [(.int IntKind.i64 0), (.int IntKind.i64 0), (.int IntKind.i64 0), (.int IntKind.i64 0)] := by kernel_rfl
theorem st_alS_129 : alS tabA 129 = some [.nilFunc] := by kernel_rfl
theorem st_alS_170 : alS tabA 170 = some [(.int IntKind.i64 0), (.int IntKind.i64 0)] := by kernel_rfl
theorem st_alS_38 : alS tabA 38 = some [(.int IntKind.i64 0), (.int IntKind.i64 0)] := by kernel_rfl
theorem st_alS_77 : alS tabA 77 = some [(.int IntKind.i64 0), (.int IntKind.i64 0)] := by kernel_rfl
theorem st_alS_87 : alS tabA 87 = some [(.int IntKind.i64 0), (.int IntKind.i64 0), (.int IntKind.i64 0), (.int IntKind.i64 0)] := by kernel_rfl
theorem st_bdS_129 : bdS tabA 129 = some ([.nilFunc], [(0, 1)]) := by kernel_rfl
theorem st_bdS_170 : bdS tabA 170 = some ([(.int IntKind.i64 0), (.int IntKind.i64 0)], [(0, 1), (1, 1)]) := by kernel_rfl
theorem st_bdS_38 : bdS tabA 38 = some ([(.int IntKind.i64 0), (.int IntKind.i64 0)], [(0, 1), (1, 1)]) := by kernel_rfl
theorem st_bdS_77 : bdS tabA 77 = some ([(.int IntKind.i64 0), (.int IntKind.i64 0)], [(0, 1), (1, 1)]) := by kernel_rfl
theorem st_esS_22 : esS tabA 22 = some 4 := by kernel_rfl
theorem st_esS_23 : esS tabA 23 = some 2 := by kernel_rfl
theorem st_esS_49 : esS tabA 49 = some 1 := by kernel_rfl
theorem st_faS_124_0 : faS tabA 124 0 = some 0 := by kernel_rfl
theorem st_faS_129_0 : faS tabA 129 0 = some 0 := by kernel_rfl
theorem st_faS_170_0 : faS tabA 170 0 = some 0 := by kernel_rfl
theorem st_faS_170_1 : faS tabA 170 1 = some 1 := by kernel_rfl
theorem st_faS_25_0 : faS tabA 25 0 = some 0 := by kernel_rfl
theorem st_faS_25_1 : faS tabA 25 1 = some 1 := by kernel_rfl
theorem st_faS_25_2 : faS tabA 25 2 = some 2 := by kernel_rfl
theorem st_faS_38_0 : faS tabA 38 0 = some 0 := by kernel_rfl
theorem st_faS_38_1 : faS tabA 38 1 = some 1 := by kernel_rfl
theorem st_faS_77_0 : faS tabA 77 0 = some 0 := by kernel_rfl
theorem st_faS_77_1 : faS tabA 77 1 = some 1 := by kernel_rfl
theorem st_faS_87_0 : faS tabA 87 0 = some 0 := by kernel_rfl
theorem st_faS_87_1 : faS tabA 87 1 = some 1 := by kernel_rfl
theorem st_faS_87_2 : faS tabA 87 2 = some 2 := by kernel_rfl
theorem st_faS_87_3 : faS tabA 87 3 = some 3 := by kernel_rfl
theorem st_inS_119 : inS tabA 119 = some 4 := by kernel_rfl
theorem st_inS_129 : inS tabA 129 = some 1 := by kernel_rfl
theorem st_inS_170 : inS tabA 170 = some 2 := by kernel_rfl
theorem st_inS_3 : inS tabA 3 = some 1 := by kernel_rfl
theorem st_inS_38 : inS tabA 38 = some 2 := by kernel_rfl
theorem st_inS_77 : inS tabA 77 = some 2 := by kernel_rfl
theorem st_inS_87 : inS tabA 87 = some 4 := by kernel_rfl
theorem st_ldS_119 : ldS tabA 119 = some 5 := by kernel_rfl
theorem st_ldS_124 : ldS tabA 124 = some 5 := by kernel_rfl
theorem st_ldS_127 : ldS tabA 127 = some 0 := by kernel_rfl
theorem st_ldS_129 : ldS tabA 129 = some 2 := by kernel_rfl
theorem st_ldS_170 : ldS tabA 170 = some 3 := by kernel_rfl
theorem st_ldS_22 : ldS tabA 22 = some 0 := by kernel_rfl
theorem st_ldS_23 : ldS tabA 23 = some 0 := by kernel_rfl
theorem st_ldS_3 : ldS tabA 3 = some 0 := by kernel_rfl
theorem st_ldS_38 : ldS tabA 38 = some 3 := by kernel_rfl
theorem st_ldS_77 : ldS tabA 77 = some 3 := by kernel_rfl
theorem st_ldS_87 : ldS tabA 87 = some 5 := by kernel_rfl
theorem fn_16 : tabA.fn 16 = some Try.f16 := by kernel_rfl
theorem fn_58 : tabA.fn 58 = some Try.f58 := by kernel_rfl
theorem fn_59 : tabA.fn 59 = some Try.f59 := by kernel_rfl
theorem fn_60 : tabA.fn 60 = some Try.f60 := by kernel_rfl
theorem fn_61 : tabA.fn 61 = some Try.f61 := by kernel_rfl
theorem fn_62 : tabA.fn 62 = some Try.f62 := by kernel_rfl
theorem fn_63 : tabA.fn 63 = some Try.f63 := by kernel_rfl
theorem fn_64 : tabA.fn 64 = some Try.f64 := by kernel_rfl
theorem fn_65 : tabA.fn 65 = some Try.f65 := by kernel_rfl
theorem fn_66 : tabA.fn 66 = some Try.f66 := by kernel_rfl
theorem fn_75 : tabA.fn 75 = some Try.f75 := by kernel_rfl
theorem fn_76 : tabA.fn 76 = some Try.f76 := by kernel_rfl
theorem fn_78 : tabA.fn 78 = some Try.f78 := by kernel_rfl
theorem fn_79 : tabA.fn 79 = some Try.f79 := by kernel_rfl
theorem fn_92 : tabA.fn 92 = some Try.f92 := by kernel_rfl
theorem fn_94 : tabA.fn 94 = some Try.f94 := by kernel_rfl
theorem fn_99 : tabA.fn 99 = some Try.f99 := by kernel_rfl
theorem fn_102 : tabA.fn 102 = some Try.f102 := by kernel_rfl
theorem fn_103 : tabA.fn 103 = some Try.f103 := by kernel_rfl
theorem fn_115 : tabA.fn 115 = some Try.f115 := by kernel_rfl
theorem fn_119 : tabA.fn 119 = some Try.f119 := by kernel_rfl
theorem fn_120 : tabA.fn 120 = some Try.f120 := by kernel_rfl
theorem fn_121 : tabA.fn 121 = some Try.f121 := by kernel_rfl
theorem fn_130 : tabA.fn 130 = some Try.f130 := by kernel_rfl
end Go.Am
set_option linter.defProp false
namespace Go.Am
open Go.Proofs
def yp := (And.intro (And.intro (And.intro (And.intro (And.intro @W_skip @W_label) (And.intro @W_exit @W_ret)) (And.intro (And.intro @W_seq @W_block) (And.intro @W_cond @W_region))) (And.intro (And.intro (And.intro @O_nil @O_cons) (And.intro @O_guard @A_move)) (And.intro (And.intro @A_assign @A_pick) (And.intro @A_box (And.intro @A_alloc @A_fieldAddr))))) (And.intro (And.intro (And.intro (And.intro @A_load @A_store) (And.intro @A_extract @A_binOp)) (And.intro (And.intro @A_call @A_len) (And.intro @wrK_eq (And.intro @A_makeFunc @A_unOp)))) (And.intro (And.intro (And.intro @A_append @D_nil) (And.intro @D_cons @D_guard)) (And.intro (And.intro @newK_alloc @newK_box) (And.intro @DS_nil (And.intro @DS_cons @DS_guard))))))
def yq0 := (And.intro (And.intro (And.intro (And.intro (And.intro @env_cons @env_nil) (And.intro @optK_some (And.intro @letK_eq @andK_of))) (And.intro (And.intro @Split_true @Split_false) (And.intro @Split_not (And.intro @seqK_normal @seqK_exit)))) (And.intro (And.intro (And.intro @seqK_ret @boolK_bool) (And.intro @bolK_bool (And.intro @guardK_true @guardK_false))) (And.intro (And.intro @gK_some @gdst_zero) (And.intro @gdst_succ (And.intro @ptrK_some @intK_int))))) (And.intro (And.intro (And.intro (And.intro @tupK_tuple @slK_some) (And.intro @aenv_tmp (And.intro @aenv_func @aenv_int))) (And.intro (And.intro @aenv_bool @gt_same) (And.intro @gt_ne (And.intro @put_none @blockExit_normal)))) (And.intro (And.intro (And.intro @blockExit_ret @blockExit_same) (And.intro @blockExit_other (And.intro @binV_add @binV_sub))) (And.intro (And.intro @binV_mul @binV_eql) (And.intro @binV_neq (And.intro @binV_lss @binV_leq))))))
def yq1 := (And.intro (And.intro (And.intro (And.intro (And.intro @binV_gtr @binV_geq) (And.intro @resK_some (And.intro @calK_func @avals_nil))) (And.intro (And.intro @avals_cons @consO_some) (And.intro @resV_one (And.intro @resV_two @resV_three)))) (And.intro (And.intro (And.intro @retK_ret @retK_normal) (And.intro @loopK_normal (And.intro @loopK_ret @loopK_exit))) (And.intro (And.intro @get_alloc_same @get_alloc_eq) (And.intro @get_alloc_lt (And.intro @get_put_same @get_put_ne))))) (And.intro (And.intro (And.intro (And.intro @size_alloc @size_put) (And.intro @size_kill (And.intro @cellsOf_rw @cellsOf_ro))) (And.intro (And.intro @part_zero @part_2) (And.intro @part_3 (And.intro @part_4 @part_5)))) (And.intro (And.intro (And.intro @part_6 @part_7) (And.intro @part_8 (And.intro @part_9 @cells_agg))) (And.intro (And.intro @cells_int @cells_bool) (And.intro @cells_slice (And.intro @cells_pointer @cells_func))))))
def yq2 := (And.intro (And.intro (And.intro (And.intro (And.intro @beq_refl @idxK_int) (And.intro @wrB_rw (And.intro @one_nil @one_int))) (And.intro (And.intro @one_bool @one_slice) (And.intro @one_pointer (And.intro @one_func @one_nilFunc)))) (And.intro (And.intro (And.intro @unV_not @fill1_some) (And.intro @andThen_some (And.intro @afill_nil @afill_cons))) (And.intro (And.intro @aparts_nil @aparts_cons) (And.intro @consP_some (And.intro @resV_cell @cellO_ptr))))) (And.intro (And.intro (And.intro (And.intro @readO_some @maskE_tmp) (And.intro @maskE_func (And.intro @maskE_int @maskE_bool))) (And.intro (And.intro @memNat_nil @memNat_cons) (And.intro @flagK_true (And.intro @flagK_false @agsK_nil)))) (And.intro (And.intro (And.intro @agsK_cons @agK_nil) (And.intro @agK_cons (And.intro @lastG_one @lastG_cons))) (And.intro (And.intro @tm_move @tm_assign) (And.intro @tm_box (And.intro @tm_load @tm_nilCheck))))))
def yq3 := (And.intro (And.intro (And.intro (And.intro (And.intro @tm_unOp @tm_convert) (And.intro @tm_alloc (And.intro @tm_store @tm_binOp))) (And.intro (And.intro @tm_fieldAddr @tm_field) (And.intro @tm_indexAddr (And.intro @tm_index @tm_pick)))) (And.intro (And.intro (And.intro @tm_extract @tm_build) (And.intro @tm_row (And.intro @tm_call @tm_built))) (And.intro (And.intro @tp_nil @tp_tmp) (And.intro @tp_const (And.intro @tp_func @aenv_nilFunc))))) (And.intro (And.intro (And.intro (And.intro @aenv_nilSlice @sv_int) (And.intro @sv_bool (And.intro @sv_pointer @sv_slice))) (And.intro (And.intro @sv_agg @sv_tuple) (And.intro @sv_func (And.intro @sl_nil @sl_cons)))) (And.intro (And.intro (And.intro @lookK_some @lookK_none) (And.intro @look_nil (And.intro @look_cons @places_nil))) (And.intro (And.intro @places_cons @allocs_nil) (And.intro @allocs_cons (And.intro @memP_nil @memP_cons))))))
def yq4 := (And.intro (And.intro (And.intro @skipK_true @skipK_false) (And.intro @stsR_nil (And.intro @stsR_cons @stR_nil))) (And.intro (And.intro @stR_cons (And.intro @tupO_some @resV_cell_tmp)) (And.intro @revA_nil (And.intro @revA_cons @guardK_undef))))
def yl := (And.intro (And.intro (And.intro (And.intro (And.intro @Nat.le_refl @cond_true.{1}) (And.intro @cond_false.{1} (And.intro @Nat.zero_add @List.nil_append.{0}))) (And.intro (And.intro @List.cons_append.{0} @List.append_nil.{0}) (And.intro @List.take_zero.{0} (And.intro @List.take_succ_cons.{0} @List.drop_zero.{0})))) (And.intro (And.intro (And.intro @List.drop_succ_cons.{0} @List.drop_nil.{0}) (And.intro @decide_true (And.intro @decide_false @Bool.and_self))) (And.intro (And.intro @Bool.true_and @List.length_cons.{0}) (And.intro @List.length_nil.{0} (And.intro @Int.toNat_natCast @Bool.or_true))))) (And.intro (And.intro (And.intro (And.intro @Bool.true_or @Bool.false_or) (And.intro @Bool.or_false (And.intro @Bool.and_true @Bool.and_false))) (And.intro (And.intro @Bool.false_and @Bool.not_true) (And.intro @Bool.not_false (And.intro @and_true @true_and)))) (And.intro (And.intro (And.intro @List.getElem?_cons_zero.{0} @List.getElem?_cons_succ.{0}) (And.intro @Nat.le_add_right (And.intro @List.map_cons.{0, 0} @List.map_nil.{0, 0}))) (And.intro (And.intro @List.map_toArray.{0, 0} (And.intro @List.append_toArray.{0} @if_true.{1})) (And.intro @if_false.{1} (And.intro @Nat.add_zero @Nat.mul_one))))))
def yA := And.intro (And.intro yq0 yq1) (And.intro (And.intro yq2 yq3) (And.intro yq4 yl))
def ys0 := (And.intro (And.intro (And.intro (And.intro (And.intro @st_alS_119 @st_alS_129) (And.intro @st_alS_170 (And.intro @st_alS_38 @st_alS_77))) (And.intro (And.intro @st_alS_87 @st_bdS_129) (And.intro @st_bdS_170 (And.intro @st_bdS_38 @st_bdS_77)))) (And.intro (And.intro (And.intro @st_esS_22 @st_esS_23) (And.intro @st_esS_49 (And.intro @st_faS_124_0 @st_faS_129_0))) (And.intro (And.intro @st_faS_170_0 @st_faS_170_1) (And.intro @st_faS_25_0 (And.intro @st_faS_25_1 @st_faS_25_2))))) (And.intro (And.intro (And.intro (And.intro @st_faS_38_0 @st_faS_38_1) (And.intro @st_faS_77_0 (And.intro @st_faS_77_1 @st_faS_87_0))) (And.intro (And.intro @st_faS_87_1 @st_faS_87_2) (And.intro @st_faS_87_3 (And.intro @st_inS_119 @st_inS_129)))) (And.intro (And.intro (And.intro @st_inS_170 @st_inS_3) (And.intro @st_inS_38 (And.intro @st_inS_77 @st_inS_87))) (And.intro (And.intro @st_ldS_119 @st_ldS_124) (And.intro @st_ldS_127 (And.intro @st_ldS_129 @st_ldS_170))))))
def ys1 := (And.intro (And.intro @st_ldS_22 (And.intro @st_ldS_23 @st_ldS_3)) (And.intro @st_ldS_38 (And.intro @st_ldS_77 @st_ldS_87)))
def yk := And.intro @ne_eq @not_false_eq_true
def yz := (And.intro @size_alloc (And.intro @size_put @size_kill))
def yg := (And.intro (And.intro (And.intro (And.intro @gt_same @gt_ne) (And.intro @put_none @get_alloc_same)) (And.intro (And.intro @get_alloc_eq @get_alloc_lt) (And.intro @get_put_same (And.intro @get_put_ne @size_alloc)))) (And.intro (And.intro (And.intro @size_put @size_kill) (And.intro @cellsOf_rw @cellsOf_ro)) (And.intro (And.intro @Nat.le_refl @Nat.zero_add) (And.intro @Nat.add_zero (And.intro @true_and @and_true)))))
end Go.Am
