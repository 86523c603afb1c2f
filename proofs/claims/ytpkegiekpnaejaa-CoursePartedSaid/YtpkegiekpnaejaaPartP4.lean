/-
The contract of CourseParted over this seat's program.
  What is proved: it answers true; nothing that was there before has turned.
  Conditions: lists of bytes that read as such.
-/
import Derived.Test.YtpkegiekpnaejaaPartP3
import Derived.StillTailTactics
namespace Go.Proofs.Ytpkegiekpnaejaa
open Go.RowKit Go.Shelf
attribute [local go_sem] Oper.semAt_some

/-- A law of a state of a walk, kept for all ways that come to it. -/
theorem with_join {P : Program} {md : Region.Mode} {ops : Array Oper} {Q : Exit → Act → World → Prop} {S : World → Prop} {f0 : Nat} {l0 : Array Bool} {a0 : Act} {w0 : World} (J : (Nat → Array Bool → Act → World → Prop) → Array Bool → Act → Prop)
    (hJ : J (fun f l a w => wpAnyH P md ops Q S f l a w) l0 a0) (k : J (fun f l a w => wpAnyH P md ops Q S f l a w) l0 a0 → wpAnyH P md ops Q S f0 l0 a0 w0) : wpAnyH P md ops Q S f0 l0 a0 w0 := k hJ
/-- What follows a region is put away while the region is walked. -/
theorem hide_Q {P : Program} {md : Region.Mode} {ops : Array Oper} {Q : Exit → Act → World → Prop} {S : World → Prop} {f0 : Nat} {l0 : Array Bool} {a0 : Act} {w0 : World} (hp : ∀ c (a : Act) (d : Tmp) v w, Q (.panic c) (a.put (some d) v) w → Q (.panic c) a w)
    (h : ∀ Q0 : Exit → Act → World → Prop, (∀ c (a : Act) (d : Tmp) v w, Q0 (.panic c) (a.put (some d) v) w → Q0 (.panic c) a w) → (∀ a w, Q .normal a w → Q0 .normal a w) → wpAnyH P md ops Q0 S f0 l0 a0 w0) : wpAnyH P md ops Q S f0 l0 a0 w0 := h Q hp (fun _ _ h => h)

theorem setb_zero (x y : Bool) (l : List Bool) : (x :: l).set 0 y = y :: l := rfl
theorem setb_succ (x y : Bool) (l : List Bool) (n : Nat) : (x :: l).set (n + 1) y = x :: l.set n y := rfl
set_option maxRecDepth 100000 in
theorem set99 (x0 x1 x2 x3 x4 x5 x6 x7 x8 x9 x10 x11 x12 x13 x14 x15 x16 x17 x18 x19 x20 x21 x22 x23 x24 x25 x26 x27 x28 x29 x30 x31 x32 x33 x34 x35 x36 x37 x38 x39 x40 x41 x42 x43 x44 x45 x46 x47 x48 x49 x50 x51 x52 x53 x54 x55 x56 x57 x58 x59 x60 x61 x62 x63 x64 x65 x66 x67 x68 x69 x70 x71 x72 x73 x74 x75 x76 x77 x78 x79 x80 x81 x82 x83 x84 x85 x86 x87 x88 x89 x90 x91 x92 x93 x94 x95 x96 x97 x98 x99 x100 x101 x102 x103 x104 x105 x106 x107 x108 x109 x110 x111 x112 x113 x114 x115 x116 x117 x118 x119 x120 x121 x122 x123 x124 x125 x126 x127 x128 x129 x130 x131 x132 x133 x134 x135 x136 x137 x138 x139 x140 x141 x142 x143 x144 x145 x146 x147 x148 x149 x150 x151 x152 x153 x154 x155 x156 x157 x158 x159 x160 x161 x162 x163 x164 x165 x166 x167 x168 x169 x170 x171 x172 x173 x174 x175 x176 x177 x178 x179 x180 x181 x182 x183 x184 x185 x186 x187 x188 x189 x190 x191 x192 x193 x194 x195 x196 x197 x198 x199 x200 x201 x202 x203 x204 x205 x206 x207 x208 x209 x210 x211 x212 x213 x214 x215 x216 x217 x218 x219 x220 x221 x222 x223 x224 x225 x226 x227 x228 x229 x230 x231 x232 x233 x234 x235 x236 x237 x238 x239 x240 x241 x242 x243 x244 x245 x246 x247 x248 x249 x250 x251 x252 x253 x254 x255 x256 x257 x258 x259 x260 x261 x262 x263 x264 x265 x266 x267 x268 x269 x270 x271 x272 x273 x274 x275 x276 x277 x278 x279 x280 x281 x282 x283 x284 x285 x286 x287 x288 x289 x290 x291 v : Value) : List.set [x0, x1, x2, x3, x4, x5, x6, x7, x8, x9, x10, x11, x12, x13, x14, x15, x16, x17, x18, x19, x20, x21, x22, x23, x24, x25, x26, x27, x28, x29, x30, x31, x32, x33, x34, x35, x36, x37, x38, x39, x40, x41, x42, x43, x44, x45, x46, x47, x48, x49, x50, x51, x52, x53, x54, x55, x56, x57, x58, x59, x60, x61, x62, x63, x64, x65, x66, x67, x68, x69, x70, x71, x72, x73, x74, x75, x76, x77, x78, x79, x80, x81, x82, x83, x84, x85, x86, x87, x88, x89, x90, x91, x92, x93, x94, x95, x96, x97, x98, x99, x100, x101, x102, x103, x104, x105, x106, x107, x108, x109, x110, x111, x112, x113, x114, x115, x116, x117, x118, x119, x120, x121, x122, x123, x124, x125, x126, x127, x128, x129, x130, x131, x132, x133, x134, x135, x136, x137, x138, x139, x140, x141, x142, x143, x144, x145, x146, x147, x148, x149, x150, x151, x152, x153, x154, x155, x156, x157, x158, x159, x160, x161, x162, x163, x164, x165, x166, x167, x168, x169, x170, x171, x172, x173, x174, x175, x176, x177, x178, x179, x180, x181, x182, x183, x184, x185, x186, x187, x188, x189, x190, x191, x192, x193, x194, x195, x196, x197, x198, x199, x200, x201, x202, x203, x204, x205, x206, x207, x208, x209, x210, x211, x212, x213, x214, x215, x216, x217, x218, x219, x220, x221, x222, x223, x224, x225, x226, x227, x228, x229, x230, x231, x232, x233, x234, x235, x236, x237, x238, x239, x240, x241, x242, x243, x244, x245, x246, x247, x248, x249, x250, x251, x252, x253, x254, x255, x256, x257, x258, x259, x260, x261, x262, x263, x264, x265, x266, x267, x268, x269, x270, x271, x272, x273, x274, x275, x276, x277, x278, x279, x280, x281, x282, x283, x284, x285, x286, x287, x288, x289, x290, x291] 99 v = [x0, x1, x2, x3, x4, x5, x6, x7, x8, x9, x10, x11, x12, x13, x14, x15, x16, x17, x18, x19, x20, x21, x22, x23, x24, x25, x26, x27, x28, x29, x30, x31, x32, x33, x34, x35, x36, x37, x38, x39, x40, x41, x42, x43, x44, x45, x46, x47, x48, x49, x50, x51, x52, x53, x54, x55, x56, x57, x58, x59, x60, x61, x62, x63, x64, x65, x66, x67, x68, x69, x70, x71, x72, x73, x74, x75, x76, x77, x78, x79, x80, x81, x82, x83, x84, x85, x86, x87, x88, x89, x90, x91, x92, x93, x94, x95, x96, x97, x98, v, x100, x101, x102, x103, x104, x105, x106, x107, x108, x109, x110, x111, x112, x113, x114, x115, x116, x117, x118, x119, x120, x121, x122, x123, x124, x125, x126, x127, x128, x129, x130, x131, x132, x133, x134, x135, x136, x137, x138, x139, x140, x141, x142, x143, x144, x145, x146, x147, x148, x149, x150, x151, x152, x153, x154, x155, x156, x157, x158, x159, x160, x161, x162, x163, x164, x165, x166, x167, x168, x169, x170, x171, x172, x173, x174, x175, x176, x177, x178, x179, x180, x181, x182, x183, x184, x185, x186, x187, x188, x189, x190, x191, x192, x193, x194, x195, x196, x197, x198, x199, x200, x201, x202, x203, x204, x205, x206, x207, x208, x209, x210, x211, x212, x213, x214, x215, x216, x217, x218, x219, x220, x221, x222, x223, x224, x225, x226, x227, x228, x229, x230, x231, x232, x233, x234, x235, x236, x237, x238, x239, x240, x241, x242, x243, x244, x245, x246, x247, x248, x249, x250, x251, x252, x253, x254, x255, x256, x257, x258, x259, x260, x261, x262, x263, x264, x265, x266, x267, x268, x269, x270, x271, x272, x273, x274, x275, x276, x277, x278, x279, x280, x281, x282, x283, x284, x285, x286, x287, x288, x289, x290, x291] := by kernel_rfl
set_option maxRecDepth 100000 in
theorem set109 (x0 x1 x2 x3 x4 x5 x6 x7 x8 x9 x10 x11 x12 x13 x14 x15 x16 x17 x18 x19 x20 x21 x22 x23 x24 x25 x26 x27 x28 x29 x30 x31 x32 x33 x34 x35 x36 x37 x38 x39 x40 x41 x42 x43 x44 x45 x46 x47 x48 x49 x50 x51 x52 x53 x54 x55 x56 x57 x58 x59 x60 x61 x62 x63 x64 x65 x66 x67 x68 x69 x70 x71 x72 x73 x74 x75 x76 x77 x78 x79 x80 x81 x82 x83 x84 x85 x86 x87 x88 x89 x90 x91 x92 x93 x94 x95 x96 x97 x98 x99 x100 x101 x102 x103 x104 x105 x106 x107 x108 x109 x110 x111 x112 x113 x114 x115 x116 x117 x118 x119 x120 x121 x122 x123 x124 x125 x126 x127 x128 x129 x130 x131 x132 x133 x134 x135 x136 x137 x138 x139 x140 x141 x142 x143 x144 x145 x146 x147 x148 x149 x150 x151 x152 x153 x154 x155 x156 x157 x158 x159 x160 x161 x162 x163 x164 x165 x166 x167 x168 x169 x170 x171 x172 x173 x174 x175 x176 x177 x178 x179 x180 x181 x182 x183 x184 x185 x186 x187 x188 x189 x190 x191 x192 x193 x194 x195 x196 x197 x198 x199 x200 x201 x202 x203 x204 x205 x206 x207 x208 x209 x210 x211 x212 x213 x214 x215 x216 x217 x218 x219 x220 x221 x222 x223 x224 x225 x226 x227 x228 x229 x230 x231 x232 x233 x234 x235 x236 x237 x238 x239 x240 x241 x242 x243 x244 x245 x246 x247 x248 x249 x250 x251 x252 x253 x254 x255 x256 x257 x258 x259 x260 x261 x262 x263 x264 x265 x266 x267 x268 x269 x270 x271 x272 x273 x274 x275 x276 x277 x278 x279 x280 x281 x282 x283 x284 x285 x286 x287 x288 x289 x290 x291 v : Value) : List.set [x0, x1, x2, x3, x4, x5, x6, x7, x8, x9, x10, x11, x12, x13, x14, x15, x16, x17, x18, x19, x20, x21, x22, x23, x24, x25, x26, x27, x28, x29, x30, x31, x32, x33, x34, x35, x36, x37, x38, x39, x40, x41, x42, x43, x44, x45, x46, x47, x48, x49, x50, x51, x52, x53, x54, x55, x56, x57, x58, x59, x60, x61, x62, x63, x64, x65, x66, x67, x68, x69, x70, x71, x72, x73, x74, x75, x76, x77, x78, x79, x80, x81, x82, x83, x84, x85, x86, x87, x88, x89, x90, x91, x92, x93, x94, x95, x96, x97, x98, x99, x100, x101, x102, x103, x104, x105, x106, x107, x108, x109, x110, x111, x112, x113, x114, x115, x116, x117, x118, x119, x120, x121, x122, x123, x124, x125, x126, x127, x128, x129, x130, x131, x132, x133, x134, x135, x136, x137, x138, x139, x140, x141, x142, x143, x144, x145, x146, x147, x148, x149, x150, x151, x152, x153, x154, x155, x156, x157, x158, x159, x160, x161, x162, x163, x164, x165, x166, x167, x168, x169, x170, x171, x172, x173, x174, x175, x176, x177, x178, x179, x180, x181, x182, x183, x184, x185, x186, x187, x188, x189, x190, x191, x192, x193, x194, x195, x196, x197, x198, x199, x200, x201, x202, x203, x204, x205, x206, x207, x208, x209, x210, x211, x212, x213, x214, x215, x216, x217, x218, x219, x220, x221, x222, x223, x224, x225, x226, x227, x228, x229, x230, x231, x232, x233, x234, x235, x236, x237, x238, x239, x240, x241, x242, x243, x244, x245, x246, x247, x248, x249, x250, x251, x252, x253, x254, x255, x256, x257, x258, x259, x260, x261, x262, x263, x264, x265, x266, x267, x268, x269, x270, x271, x272, x273, x274, x275, x276, x277, x278, x279, x280, x281, x282, x283, x284, x285, x286, x287, x288, x289, x290, x291] 109 v = [x0, x1, x2, x3, x4, x5, x6, x7, x8, x9, x10, x11, x12, x13, x14, x15, x16, x17, x18, x19, x20, x21, x22, x23, x24, x25, x26, x27, x28, x29, x30, x31, x32, x33, x34, x35, x36, x37, x38, x39, x40, x41, x42, x43, x44, x45, x46, x47, x48, x49, x50, x51, x52, x53, x54, x55, x56, x57, x58, x59, x60, x61, x62, x63, x64, x65, x66, x67, x68, x69, x70, x71, x72, x73, x74, x75, x76, x77, x78, x79, x80, x81, x82, x83, x84, x85, x86, x87, x88, x89, x90, x91, x92, x93, x94, x95, x96, x97, x98, x99, x100, x101, x102, x103, x104, x105, x106, x107, x108, v, x110, x111, x112, x113, x114, x115, x116, x117, x118, x119, x120, x121, x122, x123, x124, x125, x126, x127, x128, x129, x130, x131, x132, x133, x134, x135, x136, x137, x138, x139, x140, x141, x142, x143, x144, x145, x146, x147, x148, x149, x150, x151, x152, x153, x154, x155, x156, x157, x158, x159, x160, x161, x162, x163, x164, x165, x166, x167, x168, x169, x170, x171, x172, x173, x174, x175, x176, x177, x178, x179, x180, x181, x182, x183, x184, x185, x186, x187, x188, x189, x190, x191, x192, x193, x194, x195, x196, x197, x198, x199, x200, x201, x202, x203, x204, x205, x206, x207, x208, x209, x210, x211, x212, x213, x214, x215, x216, x217, x218, x219, x220, x221, x222, x223, x224, x225, x226, x227, x228, x229, x230, x231, x232, x233, x234, x235, x236, x237, x238, x239, x240, x241, x242, x243, x244, x245, x246, x247, x248, x249, x250, x251, x252, x253, x254, x255, x256, x257, x258, x259, x260, x261, x262, x263, x264, x265, x266, x267, x268, x269, x270, x271, x272, x273, x274, x275, x276, x277, x278, x279, x280, x281, x282, x283, x284, x285, x286, x287, x288, x289, x290, x291] := by kernel_rfl
set_option maxRecDepth 100000 in
theorem set119 (x0 x1 x2 x3 x4 x5 x6 x7 x8 x9 x10 x11 x12 x13 x14 x15 x16 x17 x18 x19 x20 x21 x22 x23 x24 x25 x26 x27 x28 x29 x30 x31 x32 x33 x34 x35 x36 x37 x38 x39 x40 x41 x42 x43 x44 x45 x46 x47 x48 x49 x50 x51 x52 x53 x54 x55 x56 x57 x58 x59 x60 x61 x62 x63 x64 x65 x66 x67 x68 x69 x70 x71 x72 x73 x74 x75 x76 x77 x78 x79 x80 x81 x82 x83 x84 x85 x86 x87 x88 x89 x90 x91 x92 x93 x94 x95 x96 x97 x98 x99 x100 x101 x102 x103 x104 x105 x106 x107 x108 x109 x110 x111 x112 x113 x114 x115 x116 x117 x118 x119 x120 x121 x122 x123 x124 x125 x126 x127 x128 x129 x130 x131 x132 x133 x134 x135 x136 x137 x138 x139 x140 x141 x142 x143 x144 x145 x146 x147 x148 x149 x150 x151 x152 x153 x154 x155 x156 x157 x158 x159 x160 x161 x162 x163 x164 x165 x166 x167 x168 x169 x170 x171 x172 x173 x174 x175 x176 x177 x178 x179 x180 x181 x182 x183 x184 x185 x186 x187 x188 x189 x190 x191 x192 x193 x194 x195 x196 x197 x198 x199 x200 x201 x202 x203 x204 x205 x206 x207 x208 x209 x210 x211 x212 x213 x214 x215 x216 x217 x218 x219 x220 x221 x222 x223 x224 x225 x226 x227 x228 x229 x230 x231 x232 x233 x234 x235 x236 x237 x238 x239 x240 x241 x242 x243 x244 x245 x246 x247 x248 x249 x250 x251 x252 x253 x254 x255 x256 x257 x258 x259 x260 x261 x262 x263 x264 x265 x266 x267 x268 x269 x270 x271 x272 x273 x274 x275 x276 x277 x278 x279 x280 x281 x282 x283 x284 x285 x286 x287 x288 x289 x290 x291 v : Value) : List.set [x0, x1, x2, x3, x4, x5, x6, x7, x8, x9, x10, x11, x12, x13, x14, x15, x16, x17, x18, x19, x20, x21, x22, x23, x24, x25, x26, x27, x28, x29, x30, x31, x32, x33, x34, x35, x36, x37, x38, x39, x40, x41, x42, x43, x44, x45, x46, x47, x48, x49, x50, x51, x52, x53, x54, x55, x56, x57, x58, x59, x60, x61, x62, x63, x64, x65, x66, x67, x68, x69, x70, x71, x72, x73, x74, x75, x76, x77, x78, x79, x80, x81, x82, x83, x84, x85, x86, x87, x88, x89, x90, x91, x92, x93, x94, x95, x96, x97, x98, x99, x100, x101, x102, x103, x104, x105, x106, x107, x108, x109, x110, x111, x112, x113, x114, x115, x116, x117, x118, x119, x120, x121, x122, x123, x124, x125, x126, x127, x128, x129, x130, x131, x132, x133, x134, x135, x136, x137, x138, x139, x140, x141, x142, x143, x144, x145, x146, x147, x148, x149, x150, x151, x152, x153, x154, x155, x156, x157, x158, x159, x160, x161, x162, x163, x164, x165, x166, x167, x168, x169, x170, x171, x172, x173, x174, x175, x176, x177, x178, x179, x180, x181, x182, x183, x184, x185, x186, x187, x188, x189, x190, x191, x192, x193, x194, x195, x196, x197, x198, x199, x200, x201, x202, x203, x204, x205, x206, x207, x208, x209, x210, x211, x212, x213, x214, x215, x216, x217, x218, x219, x220, x221, x222, x223, x224, x225, x226, x227, x228, x229, x230, x231, x232, x233, x234, x235, x236, x237, x238, x239, x240, x241, x242, x243, x244, x245, x246, x247, x248, x249, x250, x251, x252, x253, x254, x255, x256, x257, x258, x259, x260, x261, x262, x263, x264, x265, x266, x267, x268, x269, x270, x271, x272, x273, x274, x275, x276, x277, x278, x279, x280, x281, x282, x283, x284, x285, x286, x287, x288, x289, x290, x291] 119 v = [x0, x1, x2, x3, x4, x5, x6, x7, x8, x9, x10, x11, x12, x13, x14, x15, x16, x17, x18, x19, x20, x21, x22, x23, x24, x25, x26, x27, x28, x29, x30, x31, x32, x33, x34, x35, x36, x37, x38, x39, x40, x41, x42, x43, x44, x45, x46, x47, x48, x49, x50, x51, x52, x53, x54, x55, x56, x57, x58, x59, x60, x61, x62, x63, x64, x65, x66, x67, x68, x69, x70, x71, x72, x73, x74, x75, x76, x77, x78, x79, x80, x81, x82, x83, x84, x85, x86, x87, x88, x89, x90, x91, x92, x93, x94, x95, x96, x97, x98, x99, x100, x101, x102, x103, x104, x105, x106, x107, x108, x109, x110, x111, x112, x113, x114, x115, x116, x117, x118, v, x120, x121, x122, x123, x124, x125, x126, x127, x128, x129, x130, x131, x132, x133, x134, x135, x136, x137, x138, x139, x140, x141, x142, x143, x144, x145, x146, x147, x148, x149, x150, x151, x152, x153, x154, x155, x156, x157, x158, x159, x160, x161, x162, x163, x164, x165, x166, x167, x168, x169, x170, x171, x172, x173, x174, x175, x176, x177, x178, x179, x180, x181, x182, x183, x184, x185, x186, x187, x188, x189, x190, x191, x192, x193, x194, x195, x196, x197, x198, x199, x200, x201, x202, x203, x204, x205, x206, x207, x208, x209, x210, x211, x212, x213, x214, x215, x216, x217, x218, x219, x220, x221, x222, x223, x224, x225, x226, x227, x228, x229, x230, x231, x232, x233, x234, x235, x236, x237, x238, x239, x240, x241, x242, x243, x244, x245, x246, x247, x248, x249, x250, x251, x252, x253, x254, x255, x256, x257, x258, x259, x260, x261, x262, x263, x264, x265, x266, x267, x268, x269, x270, x271, x272, x273, x274, x275, x276, x277, x278, x279, x280, x281, x282, x283, x284, x285, x286, x287, x288, x289, x290, x291] := by kernel_rfl
set_option maxRecDepth 100000 in
theorem set100 (x0 x1 x2 x3 x4 x5 x6 x7 x8 x9 x10 x11 x12 x13 x14 x15 x16 x17 x18 x19 x20 x21 x22 x23 x24 x25 x26 x27 x28 x29 x30 x31 x32 x33 x34 x35 x36 x37 x38 x39 x40 x41 x42 x43 x44 x45 x46 x47 x48 x49 x50 x51 x52 x53 x54 x55 x56 x57 x58 x59 x60 x61 x62 x63 x64 x65 x66 x67 x68 x69 x70 x71 x72 x73 x74 x75 x76 x77 x78 x79 x80 x81 x82 x83 x84 x85 x86 x87 x88 x89 x90 x91 x92 x93 x94 x95 x96 x97 x98 x99 x100 x101 x102 x103 x104 x105 x106 x107 x108 x109 x110 x111 x112 x113 x114 x115 x116 x117 x118 x119 x120 x121 x122 x123 x124 x125 x126 x127 x128 x129 x130 x131 x132 x133 x134 x135 x136 x137 x138 x139 x140 x141 x142 x143 x144 x145 x146 x147 x148 x149 x150 x151 x152 x153 x154 x155 x156 x157 x158 x159 x160 x161 x162 x163 x164 x165 x166 x167 x168 x169 x170 x171 x172 x173 x174 x175 x176 x177 x178 x179 x180 x181 x182 x183 x184 x185 x186 x187 x188 x189 x190 x191 x192 x193 x194 x195 x196 x197 x198 x199 x200 x201 x202 x203 x204 x205 x206 x207 x208 x209 x210 x211 x212 x213 x214 x215 x216 x217 x218 x219 x220 x221 x222 x223 x224 x225 x226 x227 x228 x229 x230 x231 x232 x233 x234 x235 x236 x237 x238 x239 x240 x241 x242 x243 x244 x245 x246 x247 x248 x249 x250 x251 x252 x253 x254 x255 x256 x257 x258 x259 x260 x261 x262 x263 x264 x265 x266 x267 x268 x269 x270 x271 x272 x273 x274 x275 x276 x277 x278 x279 x280 x281 x282 x283 x284 x285 x286 x287 x288 x289 x290 x291 v : Value) : List.set [x0, x1, x2, x3, x4, x5, x6, x7, x8, x9, x10, x11, x12, x13, x14, x15, x16, x17, x18, x19, x20, x21, x22, x23, x24, x25, x26, x27, x28, x29, x30, x31, x32, x33, x34, x35, x36, x37, x38, x39, x40, x41, x42, x43, x44, x45, x46, x47, x48, x49, x50, x51, x52, x53, x54, x55, x56, x57, x58, x59, x60, x61, x62, x63, x64, x65, x66, x67, x68, x69, x70, x71, x72, x73, x74, x75, x76, x77, x78, x79, x80, x81, x82, x83, x84, x85, x86, x87, x88, x89, x90, x91, x92, x93, x94, x95, x96, x97, x98, x99, x100, x101, x102, x103, x104, x105, x106, x107, x108, x109, x110, x111, x112, x113, x114, x115, x116, x117, x118, x119, x120, x121, x122, x123, x124, x125, x126, x127, x128, x129, x130, x131, x132, x133, x134, x135, x136, x137, x138, x139, x140, x141, x142, x143, x144, x145, x146, x147, x148, x149, x150, x151, x152, x153, x154, x155, x156, x157, x158, x159, x160, x161, x162, x163, x164, x165, x166, x167, x168, x169, x170, x171, x172, x173, x174, x175, x176, x177, x178, x179, x180, x181, x182, x183, x184, x185, x186, x187, x188, x189, x190, x191, x192, x193, x194, x195, x196, x197, x198, x199, x200, x201, x202, x203, x204, x205, x206, x207, x208, x209, x210, x211, x212, x213, x214, x215, x216, x217, x218, x219, x220, x221, x222, x223, x224, x225, x226, x227, x228, x229, x230, x231, x232, x233, x234, x235, x236, x237, x238, x239, x240, x241, x242, x243, x244, x245, x246, x247, x248, x249, x250, x251, x252, x253, x254, x255, x256, x257, x258, x259, x260, x261, x262, x263, x264, x265, x266, x267, x268, x269, x270, x271, x272, x273, x274, x275, x276, x277, x278, x279, x280, x281, x282, x283, x284, x285, x286, x287, x288, x289, x290, x291] 100 v = [x0, x1, x2, x3, x4, x5, x6, x7, x8, x9, x10, x11, x12, x13, x14, x15, x16, x17, x18, x19, x20, x21, x22, x23, x24, x25, x26, x27, x28, x29, x30, x31, x32, x33, x34, x35, x36, x37, x38, x39, x40, x41, x42, x43, x44, x45, x46, x47, x48, x49, x50, x51, x52, x53, x54, x55, x56, x57, x58, x59, x60, x61, x62, x63, x64, x65, x66, x67, x68, x69, x70, x71, x72, x73, x74, x75, x76, x77, x78, x79, x80, x81, x82, x83, x84, x85, x86, x87, x88, x89, x90, x91, x92, x93, x94, x95, x96, x97, x98, x99, v, x101, x102, x103, x104, x105, x106, x107, x108, x109, x110, x111, x112, x113, x114, x115, x116, x117, x118, x119, x120, x121, x122, x123, x124, x125, x126, x127, x128, x129, x130, x131, x132, x133, x134, x135, x136, x137, x138, x139, x140, x141, x142, x143, x144, x145, x146, x147, x148, x149, x150, x151, x152, x153, x154, x155, x156, x157, x158, x159, x160, x161, x162, x163, x164, x165, x166, x167, x168, x169, x170, x171, x172, x173, x174, x175, x176, x177, x178, x179, x180, x181, x182, x183, x184, x185, x186, x187, x188, x189, x190, x191, x192, x193, x194, x195, x196, x197, x198, x199, x200, x201, x202, x203, x204, x205, x206, x207, x208, x209, x210, x211, x212, x213, x214, x215, x216, x217, x218, x219, x220, x221, x222, x223, x224, x225, x226, x227, x228, x229, x230, x231, x232, x233, x234, x235, x236, x237, x238, x239, x240, x241, x242, x243, x244, x245, x246, x247, x248, x249, x250, x251, x252, x253, x254, x255, x256, x257, x258, x259, x260, x261, x262, x263, x264, x265, x266, x267, x268, x269, x270, x271, x272, x273, x274, x275, x276, x277, x278, x279, x280, x281, x282, x283, x284, x285, x286, x287, x288, x289, x290, x291] := by kernel_rfl
set_option maxRecDepth 100000 in
theorem set110 (x0 x1 x2 x3 x4 x5 x6 x7 x8 x9 x10 x11 x12 x13 x14 x15 x16 x17 x18 x19 x20 x21 x22 x23 x24 x25 x26 x27 x28 x29 x30 x31 x32 x33 x34 x35 x36 x37 x38 x39 x40 x41 x42 x43 x44 x45 x46 x47 x48 x49 x50 x51 x52 x53 x54 x55 x56 x57 x58 x59 x60 x61 x62 x63 x64 x65 x66 x67 x68 x69 x70 x71 x72 x73 x74 x75 x76 x77 x78 x79 x80 x81 x82 x83 x84 x85 x86 x87 x88 x89 x90 x91 x92 x93 x94 x95 x96 x97 x98 x99 x100 x101 x102 x103 x104 x105 x106 x107 x108 x109 x110 x111 x112 x113 x114 x115 x116 x117 x118 x119 x120 x121 x122 x123 x124 x125 x126 x127 x128 x129 x130 x131 x132 x133 x134 x135 x136 x137 x138 x139 x140 x141 x142 x143 x144 x145 x146 x147 x148 x149 x150 x151 x152 x153 x154 x155 x156 x157 x158 x159 x160 x161 x162 x163 x164 x165 x166 x167 x168 x169 x170 x171 x172 x173 x174 x175 x176 x177 x178 x179 x180 x181 x182 x183 x184 x185 x186 x187 x188 x189 x190 x191 x192 x193 x194 x195 x196 x197 x198 x199 x200 x201 x202 x203 x204 x205 x206 x207 x208 x209 x210 x211 x212 x213 x214 x215 x216 x217 x218 x219 x220 x221 x222 x223 x224 x225 x226 x227 x228 x229 x230 x231 x232 x233 x234 x235 x236 x237 x238 x239 x240 x241 x242 x243 x244 x245 x246 x247 x248 x249 x250 x251 x252 x253 x254 x255 x256 x257 x258 x259 x260 x261 x262 x263 x264 x265 x266 x267 x268 x269 x270 x271 x272 x273 x274 x275 x276 x277 x278 x279 x280 x281 x282 x283 x284 x285 x286 x287 x288 x289 x290 x291 v : Value) : List.set [x0, x1, x2, x3, x4, x5, x6, x7, x8, x9, x10, x11, x12, x13, x14, x15, x16, x17, x18, x19, x20, x21, x22, x23, x24, x25, x26, x27, x28, x29, x30, x31, x32, x33, x34, x35, x36, x37, x38, x39, x40, x41, x42, x43, x44, x45, x46, x47, x48, x49, x50, x51, x52, x53, x54, x55, x56, x57, x58, x59, x60, x61, x62, x63, x64, x65, x66, x67, x68, x69, x70, x71, x72, x73, x74, x75, x76, x77, x78, x79, x80, x81, x82, x83, x84, x85, x86, x87, x88, x89, x90, x91, x92, x93, x94, x95, x96, x97, x98, x99, x100, x101, x102, x103, x104, x105, x106, x107, x108, x109, x110, x111, x112, x113, x114, x115, x116, x117, x118, x119, x120, x121, x122, x123, x124, x125, x126, x127, x128, x129, x130, x131, x132, x133, x134, x135, x136, x137, x138, x139, x140, x141, x142, x143, x144, x145, x146, x147, x148, x149, x150, x151, x152, x153, x154, x155, x156, x157, x158, x159, x160, x161, x162, x163, x164, x165, x166, x167, x168, x169, x170, x171, x172, x173, x174, x175, x176, x177, x178, x179, x180, x181, x182, x183, x184, x185, x186, x187, x188, x189, x190, x191, x192, x193, x194, x195, x196, x197, x198, x199, x200, x201, x202, x203, x204, x205, x206, x207, x208, x209, x210, x211, x212, x213, x214, x215, x216, x217, x218, x219, x220, x221, x222, x223, x224, x225, x226, x227, x228, x229, x230, x231, x232, x233, x234, x235, x236, x237, x238, x239, x240, x241, x242, x243, x244, x245, x246, x247, x248, x249, x250, x251, x252, x253, x254, x255, x256, x257, x258, x259, x260, x261, x262, x263, x264, x265, x266, x267, x268, x269, x270, x271, x272, x273, x274, x275, x276, x277, x278, x279, x280, x281, x282, x283, x284, x285, x286, x287, x288, x289, x290, x291] 110 v = [x0, x1, x2, x3, x4, x5, x6, x7, x8, x9, x10, x11, x12, x13, x14, x15, x16, x17, x18, x19, x20, x21, x22, x23, x24, x25, x26, x27, x28, x29, x30, x31, x32, x33, x34, x35, x36, x37, x38, x39, x40, x41, x42, x43, x44, x45, x46, x47, x48, x49, x50, x51, x52, x53, x54, x55, x56, x57, x58, x59, x60, x61, x62, x63, x64, x65, x66, x67, x68, x69, x70, x71, x72, x73, x74, x75, x76, x77, x78, x79, x80, x81, x82, x83, x84, x85, x86, x87, x88, x89, x90, x91, x92, x93, x94, x95, x96, x97, x98, x99, x100, x101, x102, x103, x104, x105, x106, x107, x108, x109, v, x111, x112, x113, x114, x115, x116, x117, x118, x119, x120, x121, x122, x123, x124, x125, x126, x127, x128, x129, x130, x131, x132, x133, x134, x135, x136, x137, x138, x139, x140, x141, x142, x143, x144, x145, x146, x147, x148, x149, x150, x151, x152, x153, x154, x155, x156, x157, x158, x159, x160, x161, x162, x163, x164, x165, x166, x167, x168, x169, x170, x171, x172, x173, x174, x175, x176, x177, x178, x179, x180, x181, x182, x183, x184, x185, x186, x187, x188, x189, x190, x191, x192, x193, x194, x195, x196, x197, x198, x199, x200, x201, x202, x203, x204, x205, x206, x207, x208, x209, x210, x211, x212, x213, x214, x215, x216, x217, x218, x219, x220, x221, x222, x223, x224, x225, x226, x227, x228, x229, x230, x231, x232, x233, x234, x235, x236, x237, x238, x239, x240, x241, x242, x243, x244, x245, x246, x247, x248, x249, x250, x251, x252, x253, x254, x255, x256, x257, x258, x259, x260, x261, x262, x263, x264, x265, x266, x267, x268, x269, x270, x271, x272, x273, x274, x275, x276, x277, x278, x279, x280, x281, x282, x283, x284, x285, x286, x287, x288, x289, x290, x291] := by kernel_rfl
set_option maxRecDepth 100000 in
theorem set120 (x0 x1 x2 x3 x4 x5 x6 x7 x8 x9 x10 x11 x12 x13 x14 x15 x16 x17 x18 x19 x20 x21 x22 x23 x24 x25 x26 x27 x28 x29 x30 x31 x32 x33 x34 x35 x36 x37 x38 x39 x40 x41 x42 x43 x44 x45 x46 x47 x48 x49 x50 x51 x52 x53 x54 x55 x56 x57 x58 x59 x60 x61 x62 x63 x64 x65 x66 x67 x68 x69 x70 x71 x72 x73 x74 x75 x76 x77 x78 x79 x80 x81 x82 x83 x84 x85 x86 x87 x88 x89 x90 x91 x92 x93 x94 x95 x96 x97 x98 x99 x100 x101 x102 x103 x104 x105 x106 x107 x108 x109 x110 x111 x112 x113 x114 x115 x116 x117 x118 x119 x120 x121 x122 x123 x124 x125 x126 x127 x128 x129 x130 x131 x132 x133 x134 x135 x136 x137 x138 x139 x140 x141 x142 x143 x144 x145 x146 x147 x148 x149 x150 x151 x152 x153 x154 x155 x156 x157 x158 x159 x160 x161 x162 x163 x164 x165 x166 x167 x168 x169 x170 x171 x172 x173 x174 x175 x176 x177 x178 x179 x180 x181 x182 x183 x184 x185 x186 x187 x188 x189 x190 x191 x192 x193 x194 x195 x196 x197 x198 x199 x200 x201 x202 x203 x204 x205 x206 x207 x208 x209 x210 x211 x212 x213 x214 x215 x216 x217 x218 x219 x220 x221 x222 x223 x224 x225 x226 x227 x228 x229 x230 x231 x232 x233 x234 x235 x236 x237 x238 x239 x240 x241 x242 x243 x244 x245 x246 x247 x248 x249 x250 x251 x252 x253 x254 x255 x256 x257 x258 x259 x260 x261 x262 x263 x264 x265 x266 x267 x268 x269 x270 x271 x272 x273 x274 x275 x276 x277 x278 x279 x280 x281 x282 x283 x284 x285 x286 x287 x288 x289 x290 x291 v : Value) : List.set [x0, x1, x2, x3, x4, x5, x6, x7, x8, x9, x10, x11, x12, x13, x14, x15, x16, x17, x18, x19, x20, x21, x22, x23, x24, x25, x26, x27, x28, x29, x30, x31, x32, x33, x34, x35, x36, x37, x38, x39, x40, x41, x42, x43, x44, x45, x46, x47, x48, x49, x50, x51, x52, x53, x54, x55, x56, x57, x58, x59, x60, x61, x62, x63, x64, x65, x66, x67, x68, x69, x70, x71, x72, x73, x74, x75, x76, x77, x78, x79, x80, x81, x82, x83, x84, x85, x86, x87, x88, x89, x90, x91, x92, x93, x94, x95, x96, x97, x98, x99, x100, x101, x102, x103, x104, x105, x106, x107, x108, x109, x110, x111, x112, x113, x114, x115, x116, x117, x118, x119, x120, x121, x122, x123, x124, x125, x126, x127, x128, x129, x130, x131, x132, x133, x134, x135, x136, x137, x138, x139, x140, x141, x142, x143, x144, x145, x146, x147, x148, x149, x150, x151, x152, x153, x154, x155, x156, x157, x158, x159, x160, x161, x162, x163, x164, x165, x166, x167, x168, x169, x170, x171, x172, x173, x174, x175, x176, x177, x178, x179, x180, x181, x182, x183, x184, x185, x186, x187, x188, x189, x190, x191, x192, x193, x194, x195, x196, x197, x198, x199, x200, x201, x202, x203, x204, x205, x206, x207, x208, x209, x210, x211, x212, x213, x214, x215, x216, x217, x218, x219, x220, x221, x222, x223, x224, x225, x226, x227, x228, x229, x230, x231, x232, x233, x234, x235, x236, x237, x238, x239, x240, x241, x242, x243, x244, x245, x246, x247, x248, x249, x250, x251, x252, x253, x254, x255, x256, x257, x258, x259, x260, x261, x262, x263, x264, x265, x266, x267, x268, x269, x270, x271, x272, x273, x274, x275, x276, x277, x278, x279, x280, x281, x282, x283, x284, x285, x286, x287, x288, x289, x290, x291] 120 v = [x0, x1, x2, x3, x4, x5, x6, x7, x8, x9, x10, x11, x12, x13, x14, x15, x16, x17, x18, x19, x20, x21, x22, x23, x24, x25, x26, x27, x28, x29, x30, x31, x32, x33, x34, x35, x36, x37, x38, x39, x40, x41, x42, x43, x44, x45, x46, x47, x48, x49, x50, x51, x52, x53, x54, x55, x56, x57, x58, x59, x60, x61, x62, x63, x64, x65, x66, x67, x68, x69, x70, x71, x72, x73, x74, x75, x76, x77, x78, x79, x80, x81, x82, x83, x84, x85, x86, x87, x88, x89, x90, x91, x92, x93, x94, x95, x96, x97, x98, x99, x100, x101, x102, x103, x104, x105, x106, x107, x108, x109, x110, x111, x112, x113, x114, x115, x116, x117, x118, x119, v, x121, x122, x123, x124, x125, x126, x127, x128, x129, x130, x131, x132, x133, x134, x135, x136, x137, x138, x139, x140, x141, x142, x143, x144, x145, x146, x147, x148, x149, x150, x151, x152, x153, x154, x155, x156, x157, x158, x159, x160, x161, x162, x163, x164, x165, x166, x167, x168, x169, x170, x171, x172, x173, x174, x175, x176, x177, x178, x179, x180, x181, x182, x183, x184, x185, x186, x187, x188, x189, x190, x191, x192, x193, x194, x195, x196, x197, x198, x199, x200, x201, x202, x203, x204, x205, x206, x207, x208, x209, x210, x211, x212, x213, x214, x215, x216, x217, x218, x219, x220, x221, x222, x223, x224, x225, x226, x227, x228, x229, x230, x231, x232, x233, x234, x235, x236, x237, x238, x239, x240, x241, x242, x243, x244, x245, x246, x247, x248, x249, x250, x251, x252, x253, x254, x255, x256, x257, x258, x259, x260, x261, x262, x263, x264, x265, x266, x267, x268, x269, x270, x271, x272, x273, x274, x275, x276, x277, x278, x279, x280, x281, x282, x283, x284, x285, x286, x287, x288, x289, x290, x291] := by kernel_rfl
set_option maxRecDepth 100000 in
theorem set121 (x0 x1 x2 x3 x4 x5 x6 x7 x8 x9 x10 x11 x12 x13 x14 x15 x16 x17 x18 x19 x20 x21 x22 x23 x24 x25 x26 x27 x28 x29 x30 x31 x32 x33 x34 x35 x36 x37 x38 x39 x40 x41 x42 x43 x44 x45 x46 x47 x48 x49 x50 x51 x52 x53 x54 x55 x56 x57 x58 x59 x60 x61 x62 x63 x64 x65 x66 x67 x68 x69 x70 x71 x72 x73 x74 x75 x76 x77 x78 x79 x80 x81 x82 x83 x84 x85 x86 x87 x88 x89 x90 x91 x92 x93 x94 x95 x96 x97 x98 x99 x100 x101 x102 x103 x104 x105 x106 x107 x108 x109 x110 x111 x112 x113 x114 x115 x116 x117 x118 x119 x120 x121 x122 x123 x124 x125 x126 x127 x128 x129 x130 x131 x132 x133 x134 x135 x136 x137 x138 x139 x140 x141 x142 x143 x144 x145 x146 x147 x148 x149 x150 x151 x152 x153 x154 x155 x156 x157 x158 x159 x160 x161 x162 x163 x164 x165 x166 x167 x168 x169 x170 x171 x172 x173 x174 x175 x176 x177 x178 x179 x180 x181 x182 x183 x184 x185 x186 x187 x188 x189 x190 x191 x192 x193 x194 x195 x196 x197 x198 x199 x200 x201 x202 x203 x204 x205 x206 x207 x208 x209 x210 x211 x212 x213 x214 x215 x216 x217 x218 x219 x220 x221 x222 x223 x224 x225 x226 x227 x228 x229 x230 x231 x232 x233 x234 x235 x236 x237 x238 x239 x240 x241 x242 x243 x244 x245 x246 x247 x248 x249 x250 x251 x252 x253 x254 x255 x256 x257 x258 x259 x260 x261 x262 x263 x264 x265 x266 x267 x268 x269 x270 x271 x272 x273 x274 x275 x276 x277 x278 x279 x280 x281 x282 x283 x284 x285 x286 x287 x288 x289 x290 x291 v : Value) : List.set [x0, x1, x2, x3, x4, x5, x6, x7, x8, x9, x10, x11, x12, x13, x14, x15, x16, x17, x18, x19, x20, x21, x22, x23, x24, x25, x26, x27, x28, x29, x30, x31, x32, x33, x34, x35, x36, x37, x38, x39, x40, x41, x42, x43, x44, x45, x46, x47, x48, x49, x50, x51, x52, x53, x54, x55, x56, x57, x58, x59, x60, x61, x62, x63, x64, x65, x66, x67, x68, x69, x70, x71, x72, x73, x74, x75, x76, x77, x78, x79, x80, x81, x82, x83, x84, x85, x86, x87, x88, x89, x90, x91, x92, x93, x94, x95, x96, x97, x98, x99, x100, x101, x102, x103, x104, x105, x106, x107, x108, x109, x110, x111, x112, x113, x114, x115, x116, x117, x118, x119, x120, x121, x122, x123, x124, x125, x126, x127, x128, x129, x130, x131, x132, x133, x134, x135, x136, x137, x138, x139, x140, x141, x142, x143, x144, x145, x146, x147, x148, x149, x150, x151, x152, x153, x154, x155, x156, x157, x158, x159, x160, x161, x162, x163, x164, x165, x166, x167, x168, x169, x170, x171, x172, x173, x174, x175, x176, x177, x178, x179, x180, x181, x182, x183, x184, x185, x186, x187, x188, x189, x190, x191, x192, x193, x194, x195, x196, x197, x198, x199, x200, x201, x202, x203, x204, x205, x206, x207, x208, x209, x210, x211, x212, x213, x214, x215, x216, x217, x218, x219, x220, x221, x222, x223, x224, x225, x226, x227, x228, x229, x230, x231, x232, x233, x234, x235, x236, x237, x238, x239, x240, x241, x242, x243, x244, x245, x246, x247, x248, x249, x250, x251, x252, x253, x254, x255, x256, x257, x258, x259, x260, x261, x262, x263, x264, x265, x266, x267, x268, x269, x270, x271, x272, x273, x274, x275, x276, x277, x278, x279, x280, x281, x282, x283, x284, x285, x286, x287, x288, x289, x290, x291] 121 v = [x0, x1, x2, x3, x4, x5, x6, x7, x8, x9, x10, x11, x12, x13, x14, x15, x16, x17, x18, x19, x20, x21, x22, x23, x24, x25, x26, x27, x28, x29, x30, x31, x32, x33, x34, x35, x36, x37, x38, x39, x40, x41, x42, x43, x44, x45, x46, x47, x48, x49, x50, x51, x52, x53, x54, x55, x56, x57, x58, x59, x60, x61, x62, x63, x64, x65, x66, x67, x68, x69, x70, x71, x72, x73, x74, x75, x76, x77, x78, x79, x80, x81, x82, x83, x84, x85, x86, x87, x88, x89, x90, x91, x92, x93, x94, x95, x96, x97, x98, x99, x100, x101, x102, x103, x104, x105, x106, x107, x108, x109, x110, x111, x112, x113, x114, x115, x116, x117, x118, x119, x120, v, x122, x123, x124, x125, x126, x127, x128, x129, x130, x131, x132, x133, x134, x135, x136, x137, x138, x139, x140, x141, x142, x143, x144, x145, x146, x147, x148, x149, x150, x151, x152, x153, x154, x155, x156, x157, x158, x159, x160, x161, x162, x163, x164, x165, x166, x167, x168, x169, x170, x171, x172, x173, x174, x175, x176, x177, x178, x179, x180, x181, x182, x183, x184, x185, x186, x187, x188, x189, x190, x191, x192, x193, x194, x195, x196, x197, x198, x199, x200, x201, x202, x203, x204, x205, x206, x207, x208, x209, x210, x211, x212, x213, x214, x215, x216, x217, x218, x219, x220, x221, x222, x223, x224, x225, x226, x227, x228, x229, x230, x231, x232, x233, x234, x235, x236, x237, x238, x239, x240, x241, x242, x243, x244, x245, x246, x247, x248, x249, x250, x251, x252, x253, x254, x255, x256, x257, x258, x259, x260, x261, x262, x263, x264, x265, x266, x267, x268, x269, x270, x271, x272, x273, x274, x275, x276, x277, x278, x279, x280, x281, x282, x283, x284, x285, x286, x287, x288, x289, x290, x291] := by kernel_rfl

set_option maxRecDepth 100000 in
set_option maxHeartbeats 40000000 in
theorem parted_any (a : Option Addr) (n cap : Nat) (a2 : Option Addr) (n2 cap2 : Nat) (w : World) (hb : BytesAt w a n) (hn : n ≤ 140737488355328) (hb2 : BytesAt w a2 n2) (hn2 : n2 ≤ 140737488355328) (which : Int) (hwh : 0 ≤ which ∧ which ≤ 255) :
    Calls Try.prog 13 #[.slice a n cap, .slice a2 n2 cap2, .int .u8 which] w fun e w' => e = .returned (.bool true) ∧ Below w.heap.size w w' := by
  have HO := Lib.hid (of_any a n cap w hb hn)
  have HB2 := Lib.hid (And.intro hb2 hn2)
  have HWH := Lib.hid hwh
  clear hb hn hb2 hn2 hwh
  go_enter Try.func13, Try.ntmps13
  go_wp2_with (fail)
  refine HO.out.mono ?_
  rintro e w1 ⟨rfl, hD, hb1⟩
  have HD := Lib.hid (And.intro hD hb1)
  clear hD hb1 HO
  go_wp2_with (fail)
  refine (made_caps w.heap.size (w.heap.size + 1) a n cap 0 20 w1 HD.out.1 (by omega) (by omega)).mono ?_
  rintro e w2 ⟨stock, store, ad, ds, cp, rfl, hS, h1, h2, h3, h4, _, hA, _, hcp⟩
  obtain ⟨Wa, hWa⟩ : ∃ Wa, w2.alloc (.cells #[.int .i64 stock, .int .i64 store, .slice ad ds.length cp] 60) = Wa := ⟨_, rfl⟩
  have hb2 : Below w.heap.size w w2 := below_apart HD.out.2 hA (fun j hj => by omega)
  have HF : Hid ((20 ≤ store ∧ store ≤ 200) ∧ (0 ≤ stock ∧ stock ≤ store) ∧ (1 ≤ ds.length ∧ ds.length ≤ 20) ∧ (∀ d ∈ ds, SmallDay d)) := ⟨h1, h2, ⟨h3.1, by omega⟩, h4⟩
  have HW := Lib.hid (winE_small (stock := stock) (store := store) (ds := ds) ⟨by omega, by omega⟩ h2 ⟨h3.1, by omega⟩ h4)
  have HK : Hid (KW w Wa w2.heap.size stock store ad ds cp ∧ w2.heap.size < Wa.heap.size ∧ (∀ p, ad = some p → p.block < Wa.heap.size)) := by
    rw [← hWa]
    refine ⟨⟨hb2.alloc hb2.size _, heap_alloc_new _ _, hS.below (alloc1 _ _)⟩, by simp, fun p hp => ?_⟩
    obtain ⟨b, off, e, hlt, _⟩ := hS (by omega)
    rw [hp] at e
    cases e
    show b < _
    simp; omega
  have HCP := Lib.hid hcp
  clear hS h1 h2 h3 h4 hA hb2 hcp
  have HL : Hid (ds.length ≤ 1000000) := by have := HF.out.2.2.1; show _ ≤ _; omega
  have c0 := blk_cell HK.out.1.2.1 0 rfl
  have c1 := blk_cell HK.out.1.2.1 1 rfl
  have c2 := blk_cell HK.out.1.2.1 2 rfl
  have hltA := HK.out.2.1
  have hneA : w2.heap.size ≠ Wa.heap.size := Nat.ne_of_lt hltA
  have hneB : Wa.heap.size ≠ w2.heap.size := Ne.symm hneA
  have hszA : (Wa.drew.alloc zero88).heap.size = Wa.heap.size + 1 := by simp
  go_upto_region 2 with (fail)
  clear hWa
  go_cut [8] (fun p wx => ∃ (B : Nat) (an : Option Addr) (cn : Nat) (am : Option Addr) (cm : Nat) (al : Option Addr) (cl : Nat) (N M L : List Int), p = .pointer (some ⟨B, 0, none⟩) ∧ (Sky ds N M L ∧ (ds.length ≤ cn ∧ ds.length ≤ cm ∧ ds.length ≤ cl)) ∧ KW w wx w2.heap.size stock store ad ds cp ∧ LV wx B an cn am cm al cl ds.length N M L)
  case first => as_aux_lemma =>
    have HSZ := Lib.hid hszA
    clear hszA
    go_region_held3 (fun w' => w'.cell? ⟨w2.heap.size, 0, none⟩ = some (.int .i64 stock) ∧ w'.cell? ⟨w2.heap.size, 1, none⟩ = some (.int .i64 store) ∧ w'.cell? ⟨w2.heap.size, 2, none⟩ = some (.slice ad ds.length cp)) (go_keep)
      (first
        | (go_at_call 52
           first
            | (refine (drawn_caps Wa.heap.size a2 n2 cap2 0 stock store ad ds cp w3 HM.out.dk (by omega) HM.out.kw.2.2 (fun p hp => Nat.ne_of_lt (HM.out.far p hp)) (by have := HF.out.2.2.1; omega) HF.out.2.2.2).mono ?_
               rintro e w4 ⟨an, cn, am, cm, al, cl, N, M, L, rfl, iN, iM, iL, hsk, hD, hA, fN, fM, fL, hcaps⟩
               replace hsk := And.intro hsk hcaps
               clear hcaps
               have HM4 := Lib.hid (HM.out.draw hA hD)
               have HI4 := Lib.hid (And.intro iN (And.intro iM (And.intro iL hsk)))
               clear iN iM iL hsk hD hA fN fM fL c0 c1 c2
               have c0 := blk_cell HM4.out.kw.2.1 0 rfl
               have c1 := blk_cell HM4.out.kw.2.1 1 rfl
               have c2 := blk_cell HM4.out.kw.2.1 2 rfl
               have hne4 : w2.heap.size ≠ w4.heap.size := Nat.ne_of_lt (lt_of_block HM4.out.kw.2.1))
            | (refine (drawn_caps Wa.heap.size a2 n2 cap2 0 stock store ad ds cp (w3.alloc zero88) (HM.out.dk.below (alloc1 _ _)) (by omega) (HM.out.kw.2.2.below (alloc1 _ _)) (fun p hp => Nat.ne_of_lt (HM.out.far p hp)) (by have := HF.out.2.2.1; omega) HF.out.2.2.2).mono ?_
               rintro e w4 ⟨an, cn, am, cm, al, cl, N, M, L, rfl, iN, iM, iL, hsk, hD, hA, fN, fM, fL, hcaps⟩
               replace hsk := And.intro hsk hcaps
               clear hcaps
               have hlt3 := HM.out.dk.lt
               have HB4 : Hid (w4.heap[w3.heap.size]? = some (.cells #[.slice none 0 0, .slice none 0 0, .slice none 0 0] 88 (0, 0))) := (hA.block _ (by rw [World.size_alloc]; omega) (by omega)).trans (heap_alloc_new w3 zero88)
               have HM4 := Lib.hid ((HM.out.below (alloc1 _ _)).draw hA hD)
               have hsw : (w3.alloc zero88).heap.size = w3.heap.size + 1 := by simp
               have HI4 := Lib.hid (And.intro iN (And.intro iM (And.intro iL (And.intro hsk (And.intro (fun p hp => by have := fN p hp; omega : ∀ p, an = some p → w3.heap.size < p.block) (And.intro (fun p hp => by have := fM p hp; omega : ∀ p, am = some p → w3.heap.size < p.block) (fun p hp => by have := fL p hp; omega : ∀ p, al = some p → w3.heap.size < p.block)))))))
               clear iN iM iL hsk hD hA fN fM fL c0 c1 c2
               have c0 := blk_cell HM4.out.kw.2.1 0 rfl
               have c1 := blk_cell HM4.out.kw.2.1 1 rfl
               have c2 := blk_cell HM4.out.kw.2.1 2 rfl
               have y0 := blk_free (j := 0) HB4.out
               have y1 := blk_free (j := 1) HB4.out
               have y2 := blk_free (j := 2) HB4.out
               have z0 := blk_cell HB4.out 0 rfl
               have z1 := blk_cell HB4.out 1 rfl
               have z2 := blk_cell HB4.out 2 rfl
               have hne4 : w2.heap.size ≠ w3.heap.size := Nat.ne_of_lt (lt_of_block HM.out.kw.2.1)
               have hne5 : w3.heap.size ≠ w2.heap.size := Ne.symm hne4)
            | (refine (drawn_caps (Wa.heap.size + 1) a2 n2 cap2 0 stock store ad ds cp w3 HMP.out.1.dk (by omega) HMP.out.1.kw.2.2 (fun p hp => Nat.ne_of_lt (HMP.out.1.far p hp)) (by have := HF.out.2.2.1; omega) HF.out.2.2.2).mono ?_
               rintro e w4 ⟨an, cn, am, cm, al, cl, N, M, L, rfl, iN, iM, iL, hsk, hD, hA, fN, fM, fL, hcaps⟩
               replace hsk := And.intro hsk hcaps
               clear hcaps
               have hlt3 := lt_of_block HMP.out.2
               have HB4 : Hid (w4.heap[Wa.heap.size]? = some (.cells #[.slice none 0 0, .slice none 0 0, .slice none 0 0] 88 (0, 0))) := (hA.block _ hlt3 (by omega)).trans HMP.out.2
               have HM4 := Lib.hid (HMP.out.1.draw hA hD)
               have HI4 := Lib.hid (And.intro iN (And.intro iM (And.intro iL (And.intro hsk (And.intro (fun p hp => by have := fN p hp; omega : ∀ p, an = some p → Wa.heap.size < p.block) (And.intro (fun p hp => by have := fM p hp; omega : ∀ p, am = some p → Wa.heap.size < p.block) (fun p hp => by have := fL p hp; omega : ∀ p, al = some p → Wa.heap.size < p.block)))))))
               clear iN iM iL hsk hD hA fN fM fL c0 c1 c2
               have c0 := blk_cell HM4.out.kw.2.1 0 rfl
               have c1 := blk_cell HM4.out.kw.2.1 1 rfl
               have c2 := blk_cell HM4.out.kw.2.1 2 rfl
               have y0 := blk_free (j := 0) HB4.out
               have y1 := blk_free (j := 1) HB4.out
               have y2 := blk_free (j := 2) HB4.out
               have z0 := blk_cell HB4.out 0 rfl
               have z1 := blk_cell HB4.out 1 rfl
               have z2 := blk_cell HB4.out 2 rfl))
        | (go_at_call 49
           first
            | (refine (of_any a2 n2 cap2 Wa.drew (HB2.out.1.keep HK.out.1.1.size (fun _ p _ hp => HK.out.1.1.block _ hp)) HB2.out.2).mono ?_
               rintro e w3 ⟨rfl, hD, hb⟩
               have HM : Hid (MP w w3 w2.heap.size Wa.heap.size stock store ad ds cp a2 n2 cap2 0) := ⟨HK.out.1.below (past_drew' hb), hD, HK.out.1.1.size, HK.out.2.1, HK.out.2.2⟩
               clear hD hb c0 c1 c2
               have c0 := blk_cell HM.out.kw.2.1 0 rfl
               have c1 := blk_cell HM.out.kw.2.1 1 rfl
               have c2 := blk_cell HM.out.kw.2.1 2 rfl
               have hne3 : w2.heap.size ≠ w3.heap.size := Nat.ne_of_lt (lt_of_block HM.out.kw.2.1))
            | (refine (of_any a2 n2 cap2 (Wa.drew.alloc zero88) (HB2.out.1.keep (by rw [HSZ.out]; have := HK.out.1.1.size; omega) (fun _ p _ hp => (heap_alloc_old Wa.drew zero88 (Nat.lt_of_lt_of_le hp HK.out.1.1.size)).trans (HK.out.1.1.block _ hp))) HB2.out.2).mono ?_
               rintro e w3 ⟨rfl, hD, hb⟩
               rw [HSZ.out] at hD ⊢
               have HMP := Lib.hid (deck_late HK.out hD hb)
               clear hD hb c0 c1 c2
               have c0 := blk_cell HMP.out.1.kw.2.1 0 rfl
               have c1 := blk_cell HMP.out.1.kw.2.1 1 rfl
               have c2 := blk_cell HMP.out.1.kw.2.1 2 rfl
               have x0 := blk_cell HMP.out.2 0 rfl)))
    all_goals (
      clear c0 c1 c2
      go_wp2_with (fail)
      go_meet
      first
        | exact ⟨w4.heap.size, an, cn, am, cm, al, cl, N, M, L, rfl, HI4.out.2.2.2, box_new HM4.out HI4.out.1 HI4.out.2.1 HI4.out.2.2.1⟩
        | exact ⟨w3.heap.size, an, cn, am, cm, al, cl, N, M, L, rfl, HI4.out.2.2.2.1, box_put HM4.out HB4.out HM.out.kw.1.size hne4 (fun p hp => by have h1 := HM.out.far p hp; have h2 := HM.out.dk.lt; omega) HI4.out.1 HI4.out.2.1 HI4.out.2.2.1 HI4.out.2.2.2.2.1 HI4.out.2.2.2.2.2.1 HI4.out.2.2.2.2.2.2⟩
        | exact ⟨Wa.heap.size, an, cn, am, cm, al, cl, N, M, L, rfl, HI4.out.2.2.2.1, box_put HM4.out HB4.out HK.out.1.1.size hneA (fun p hp => Nat.ne_of_lt (HK.out.2.2 p hp)) HI4.out.1 HI4.out.2.1 HI4.out.2.2.1 HI4.out.2.2.2.2.1 HI4.out.2.2.2.2.2.1 HI4.out.2.2.2.2.2.2⟩)
  case rest =>
    obtain ⟨B, an, cn, am, cm, al, cl, N, M, L, rfl, hsk, hm, hl⟩ := hcut
    have HSK := Lib.hid hsk.1
    have HCW := Lib.hid hsk.2
    have HT := Lib.hid (And.intro hm hl)
    clear hsk hm hl c0 c1 c2 hltA hneA hneB hszA
    obtain ⟨S, hS⟩ : ∃ S, (playL stock store N M L ds.length).stocks = S := ⟨_, rfl⟩
    have HSM := Lib.hid hS
    clear hS
    have c0 := blk_cell HT.out.1.2.1 0 rfl
    have c1 := blk_cell HT.out.1.2.1 1 rfl
    have c2 := blk_cell HT.out.1.2.1 2 rfl
    have t0 := blk_cell HT.out.2.tb 0 rfl
    have t1 := blk_cell HT.out.2.tb 1 rfl
    have t2 := blk_cell HT.out.2.tb 2 rfl
    go_wp2_with (fail)
    clear c0 c1 c2 t0 t1 t2
    have HC := Stocks_cap stock store ad ds cp an N cn am M cm al L cl wc HT.out.1.2.2 HT.out.2.n HT.out.2.m HT.out.2.l HW.out HSK.out
    rw [HSM.out] at HC
    refine HC.mono ?_
    rintro e w5 ⟨sb, sc, rfl, ⟨⟨iS, hsc⟩, _⟩, hb⟩
    have HSC := Lib.hid hsc
    clear hsc
    have HT := Lib.hid (And.intro (HT.out.1.below hb) (And.intro (HT.out.2.below hb) iS))
    clear hb iS HC
    have c0 := blk_cell HT.out.1.2.1 0 rfl
    have c1 := blk_cell HT.out.1.2.1 1 rfl
    have c2 := blk_cell HT.out.1.2.1 2 rfl
    have e1 : IntKind.i64.wrap (2 * stock) = 2 * stock := IntWalk.i64_in _ (by have := HF.out; omega)
    have e2 : IntKind.i64.wrap (2 * store) = 2 * store := IntWalk.i64_in _ (by have := HF.out; omega)
    have hlq : w2.heap.size < w5.heap.size := lt_of_block HT.out.1.2.1
    have hlq1 : w2.heap.size < w5.heap.size + 1 := by omega
    go_wp2_with (fail)
    have HP0 := Lib.hid (PQ.start w5 (2 * stock) (2 * store))
    generalize (w5.alloc (.cells #[.int .i64 (2 * stock), .int .i64 (2 * store), .slice none 0 0] 60)).alloc (.cells #[.slice none 0 0, .slice none 0 0, .slice none 0 0] 88) = W6 at HP0 ⊢
    clear c0 c1 c2 e1 e2 hlq hlq1
    obtain ⟨i0, hi, hz0, hz1, hz2⟩ := info_parts Try.info3
    obtain ⟨j0, hj, hjz0, hjz1, hjz2⟩ := info_parts Try.info97
    go_loopw [53] (fun i wr => ∃ (j : Nat) (sv vN vM vL : Value) (dT : List Dy) (N2 M2 L2 : List Int), i = .int .i64 j ∧ j ≤ ds.length ∧ Hid (PQ w5 (2 * stock) (2 * store) wr sv vN vM vL dT N2 M2 L2) ∧ Hid (dT = (ds.take j).map Dy.dbl ∧ N2 = (N.take j).map (2 * ·) ∧ M2 = (M.take j).map (2 * ·) ∧ L2 = (L.take j).map (2 * ·))) (fun i _ => ds.length - (intOf i).toNat)
    case atStart => exact ⟨0, _, _, _, _, [], [], [], [], rfl, Nat.zero_le _, HP0.out, by simp, by simp, by simp, by simp⟩
    case round =>
      obtain ⟨j, sv, vN, vM, vL, dT, N2, M2, L2, rfl, hj', hR, hE⟩ := hrel
      by_cases hlt : j < ds.length
      ·
        obtain ⟨b, off, rfl, hbs, hc⟩ := HT.out.1.2.2 (by omega)
        have HD : Hid (ds[j]? = some ds[j]) := List.getElem?_eq_getElem hlt
        have ck : ∀ (i : Nat) (u : Int), (Dy.cells ds[j])[i]? = some u → wr.cell? ⟨b, off + j * 6 + i, none⟩ = some (.int .i64 u) := fun i u hu => (hR.out.tr.b.cell (p := ⟨b, off + j * 6 + i, none⟩) hbs).trans (hc j ds[j] i u (List.getElem?_eq_getElem hlt) hu)
        have d0 : wr.cell? ⟨b, off + j * 6, none⟩ = some (.int .i64 ds[j].need.lo) := ck 0 _ rfl
        have d1 := ck 1 _ rfl
        have d2 := ck 2 _ rfl
        have d3 := ck 3 _ rfl
        have d4 := ck 4 _ rfl
        have d5 := ck 5 _ rfl
        have hsm := HF.out.2.2.2 ds[j] (List.getElem_mem hlt)
        unfold SmallDay SmallSp at hsm
        have hlen : dT.length ≤ 60 ∧ N2.length ≤ 60 ∧ M2.length ≤ 60 ∧ L2.length ≤ 60 := by
          obtain ⟨h0, h1, h2, h3⟩ := hE.out
          have := HF.out.2.2.1
          rw [h0, h1, h2, h3]
          simp only [List.length_map, List.length_take]
          omega
        have HDB := Lib.hid (dbl_more HD.out)
        clear ck hc
        generalize ds[j] = d at *
        have q1 : IntKind.i64.wrap (2 * d.need.lo) = 2 * d.need.lo := IntWalk.i64_in _ (by omega)
        have q2 : IntKind.i64.wrap (2 * d.need.hi) = 2 * d.need.hi := IntWalk.i64_in _ (by omega)
        have q3 : IntKind.i64.wrap (2 * d.make.lo) = 2 * d.make.lo := IntWalk.i64_in _ (by omega)
        have q4 : IntKind.i64.wrap (2 * d.make.hi) = 2 * d.make.hi := IntWalk.i64_in _ (by omega)
        have q5 : IntKind.i64.wrap (2 * d.loss.lo) = 2 * d.loss.lo := IntWalk.i64_in _ (by omega)
        have q6 : IntKind.i64.wrap (2 * d.loss.hi) = 2 * d.loss.hi := IntWalk.i64_in _ (by omega)
        clear hsm
        obtain ⟨Wx, hWx⟩ : ∃ Wx, wr.alloc (.cells #[.int .i64 d.need.lo, .int .i64 d.need.hi, .int .i64 d.make.lo, .int .i64 d.make.hi, .int .i64 d.loss.lo, .int .i64 d.loss.hi] 97) = Wx := ⟨_, rfl⟩
        have HW0 : Hid (PQ w5 (2 * stock) (2 * store) Wx sv vN vM vL dT N2 M2 L2 ∧ Wx.heap[wr.heap.size]? = some (.cells #[.int .i64 d.need.lo, .int .i64 d.need.hi, .int .i64 d.make.lo, .int .i64 d.make.hi, .int .i64 d.loss.lo, .int .i64 d.loss.hi] 97 (0, 0))) := by
          rw [← hWx]
          exact ⟨hR.out.below ((Below.refl _ _).alloc (Nat.le_refl _) _), heap_alloc_new _ _⟩
        go_upto_region 10 with (fail)
        clear hWx d0 d1 d2 d3 d4 d5
        refine wp_region_split (S := fun W' => W'.cell? ⟨w5.heap.size, 2, none⟩ = some sv ∧ W'.heap[wr.heap.size]? = some (.cells #[.int .i64 d.need.lo, .int .i64 d.need.hi, .int .i64 d.make.lo, .int .i64 d.make.hi, .int .i64 d.loss.lo, .int .i64 d.loss.hi] 97 (0, 0))) [33] 33 (by kernel_rfl) (by kernel_rfl) rfl ?_
        refine hide_Q (fun _ _ _ _ _ h => h) (fun Q0 hp0 hn0 => ?_)
        have HN0 := Lib.hid hn0
        clear hn0
        have H0 : Hid (PQ w5 (2 * stock) (2 * store) Wx.drew sv vN vM vL dT N2 M2 L2 ∧ Wx.drew.heap[wr.heap.size]? = some (.cells #[.int .i64 d.need.lo, .int .i64 d.need.hi, .int .i64 d.make.lo, .int .i64 d.make.hi, .int .i64 d.loss.lo, .int .i64 d.loss.hi] 97 (0, 0))) := ⟨HW0.out.1.below (Below.refl _ _).drew, HW0.out.2⟩
        generalize Wx.drew = W0 at H0 ⊢
        rw [show firstL _ [33] = #[false, false, false, false, false, false, false, false, false, false, false, false, false, false, false, false, false, false, false, false, false, false, false, false, false, false, false, false, false, false, false, false, false, true] from by kernel_rfl]
        have HSV := Lib.hid (show sv.ownBlock ≠ some wr.heap.size from fun e => by have := (hR.out.wr.row.lt _ e).2; omega)
        refine wpAnyH_take (i := 0) (v := .pointer (some ⟨w5.heap.size, 2, none⟩)) rfl (by kernel_rfl) (by kernel_rfl) (by kernel_rfl) (fun _ _ _ h => hp0 _ _ _ _ _ h) (Or.inl ⟨by rfl, by (intro W hSw; clear hSw; go_simp)⟩) ⟨blk_cell H0.out.1.wr.wb 2 rfl, H0.out.2⟩ ?_
        simp only [Act.put, List.getElem_toArray, List.getElem_cons_zero, List.setIfInBounds_toArray, List.set_cons_zero, List.set_cons_succ]
        refine wpAnyH_take (i := 1) (v := sv) rfl (by kernel_rfl) (by kernel_rfl) (by kernel_rfl) (fun _ _ _ h => hp0 _ _ _ _ _ h) (Or.inl ⟨by rfl, by (intro W hSw; have c := hSw.1; clear hSw; go_simp)⟩) ⟨blk_cell H0.out.1.wr.wb 2 rfl, H0.out.2⟩ ?_
        simp only [Act.put, List.getElem_toArray, List.getElem_cons_succ, List.getElem_cons_zero, List.setIfInBounds_toArray, List.set_cons_zero, List.set_cons_succ]
        refine wpAnyH_take (i := 2) (v := .pointer (some ⟨wr.heap.size, 0, none⟩)) rfl (by kernel_rfl) (by kernel_rfl) (by kernel_rfl) (fun _ _ _ h => hp0 _ _ _ _ _ h) (Or.inl ⟨by rfl, by (intro W hSw; clear hSw; go_simp)⟩) ⟨blk_cell H0.out.1.wr.wb 2 rfl, H0.out.2⟩ ?_
        simp only [Act.put, List.getElem_toArray, List.getElem_cons_succ, List.getElem_cons_zero, List.setIfInBounds_toArray, List.set_cons_zero, List.set_cons_succ]
        refine wpAnyH_take (i := 3) (v := .pointer (some ⟨wr.heap.size, 0, none⟩)) rfl (by kernel_rfl) (by kernel_rfl) (by kernel_rfl) (fun _ _ _ h => hp0 _ _ _ _ _ h) (Or.inl ⟨by rfl, by (intro W hSw; clear hSw; go_simp)⟩) ⟨blk_cell H0.out.1.wr.wb 2 rfl, H0.out.2⟩ ?_
        simp only [Act.put, List.getElem_toArray, List.getElem_cons_succ, List.getElem_cons_zero, List.setIfInBounds_toArray, List.set_cons_zero, List.set_cons_succ]
        refine wpAnyH_take (i := 4) (v := .int .i64 d.need.lo) rfl (by kernel_rfl) (by kernel_rfl) (by kernel_rfl) (fun _ _ _ h => hp0 _ _ _ _ _ h) (Or.inl ⟨by rfl, by (intro W hSw; have c := blk_cell hSw.2 0 rfl; clear hSw; go_simp)⟩) ⟨blk_cell H0.out.1.wr.wb 2 rfl, H0.out.2⟩ ?_
        simp only [Act.put, List.getElem_toArray, List.getElem_cons_succ, List.getElem_cons_zero, List.setIfInBounds_toArray, List.set_cons_zero, List.set_cons_succ]
        refine wpAnyH_take (i := 5) (v := .int .i64 (2 * d.need.lo)) rfl (by kernel_rfl) (by kernel_rfl) (by kernel_rfl) (fun _ _ _ h => hp0 _ _ _ _ _ h) (Or.inl ⟨by rfl, by (intro W hSw; clear hSw; go_simp)⟩) ⟨blk_cell H0.out.1.wr.wb 2 rfl, H0.out.2⟩ ?_
        simp only [Act.put, List.getElem_toArray, List.getElem_cons_succ, List.getElem_cons_zero, List.setIfInBounds_toArray, List.set_cons_zero, List.set_cons_succ]
        refine wpAnyH_take (i := 6) (v := .pointer (some ⟨wr.heap.size, 0, none⟩)) rfl (by kernel_rfl) (by kernel_rfl) (by kernel_rfl) (fun _ _ _ h => hp0 _ _ _ _ _ h) (Or.inl ⟨by rfl, by (intro W hSw; clear hSw; go_simp)⟩) ⟨blk_cell H0.out.1.wr.wb 2 rfl, H0.out.2⟩ ?_
        simp only [Act.put, List.getElem_toArray, List.getElem_cons_succ, List.getElem_cons_zero, List.setIfInBounds_toArray, List.set_cons_zero, List.set_cons_succ]
        refine wpAnyH_take (i := 7) (v := .pointer (some ⟨wr.heap.size, 1, none⟩)) rfl (by kernel_rfl) (by kernel_rfl) (by kernel_rfl) (fun _ _ _ h => hp0 _ _ _ _ _ h) (Or.inl ⟨by rfl, by (intro W hSw; clear hSw; go_simp)⟩) ⟨blk_cell H0.out.1.wr.wb 2 rfl, H0.out.2⟩ ?_
        simp only [Act.put, List.getElem_toArray, List.getElem_cons_succ, List.getElem_cons_zero, List.setIfInBounds_toArray, List.set_cons_zero, List.set_cons_succ]
        refine wpAnyH_take (i := 8) (v := .int .i64 d.need.hi) rfl (by kernel_rfl) (by kernel_rfl) (by kernel_rfl) (fun _ _ _ h => hp0 _ _ _ _ _ h) (Or.inl ⟨by rfl, by (intro W hSw; have c := blk_cell hSw.2 1 rfl; clear hSw; go_simp)⟩) ⟨blk_cell H0.out.1.wr.wb 2 rfl, H0.out.2⟩ ?_
        simp only [Act.put, List.getElem_toArray, List.getElem_cons_succ, List.getElem_cons_zero, List.setIfInBounds_toArray, List.set_cons_zero, List.set_cons_succ]
        refine wpAnyH_take (i := 9) (v := .int .i64 (2 * d.need.hi)) rfl (by kernel_rfl) (by kernel_rfl) (by kernel_rfl) (fun _ _ _ h => hp0 _ _ _ _ _ h) (Or.inl ⟨by rfl, by (intro W hSw; clear hSw; go_simp)⟩) ⟨blk_cell H0.out.1.wr.wb 2 rfl, H0.out.2⟩ ?_
        simp only [Act.put, List.getElem_toArray, List.getElem_cons_succ, List.getElem_cons_zero, List.setIfInBounds_toArray, List.set_cons_zero, List.set_cons_succ]
        refine wpAnyH_take (i := 11) (v := .pointer (some ⟨wr.heap.size, 2, none⟩)) rfl (by kernel_rfl) (by kernel_rfl) (by kernel_rfl) (fun _ _ _ h => hp0 _ _ _ _ _ h) (Or.inl ⟨by rfl, by (intro W hSw; clear hSw; go_simp)⟩) ⟨blk_cell H0.out.1.wr.wb 2 rfl, H0.out.2⟩ ?_
        simp only [Act.put, List.getElem_toArray, List.getElem_cons_succ, List.getElem_cons_zero, List.setIfInBounds_toArray, List.set_cons_zero, List.set_cons_succ]
        refine wpAnyH_take (i := 12) (v := .pointer (some ⟨wr.heap.size, 2, none⟩)) rfl (by kernel_rfl) (by kernel_rfl) (by kernel_rfl) (fun _ _ _ h => hp0 _ _ _ _ _ h) (Or.inl ⟨by rfl, by (intro W hSw; clear hSw; go_simp)⟩) ⟨blk_cell H0.out.1.wr.wb 2 rfl, H0.out.2⟩ ?_
        simp only [Act.put, List.getElem_toArray, List.getElem_cons_succ, List.getElem_cons_zero, List.setIfInBounds_toArray, List.set_cons_zero, List.set_cons_succ]
        refine wpAnyH_take (i := 13) (v := .int .i64 d.make.lo) rfl (by kernel_rfl) (by kernel_rfl) (by kernel_rfl) (fun _ _ _ h => hp0 _ _ _ _ _ h) (Or.inl ⟨by rfl, by (intro W hSw; have c := blk_cell hSw.2 2 rfl; clear hSw; go_simp)⟩) ⟨blk_cell H0.out.1.wr.wb 2 rfl, H0.out.2⟩ ?_
        simp only [Act.put, List.getElem_toArray, List.getElem_cons_succ, List.getElem_cons_zero, List.setIfInBounds_toArray, List.set_cons_zero, List.set_cons_succ]
        refine wpAnyH_take (i := 14) (v := .int .i64 (2 * d.make.lo)) rfl (by kernel_rfl) (by kernel_rfl) (by kernel_rfl) (fun _ _ _ h => hp0 _ _ _ _ _ h) (Or.inl ⟨by rfl, by (intro W hSw; clear hSw; go_simp)⟩) ⟨blk_cell H0.out.1.wr.wb 2 rfl, H0.out.2⟩ ?_
        simp only [Act.put, List.getElem_toArray, List.getElem_cons_succ, List.getElem_cons_zero, List.setIfInBounds_toArray, List.set_cons_zero, List.set_cons_succ]
        refine wpAnyH_take (i := 15) (v := .pointer (some ⟨wr.heap.size, 2, none⟩)) rfl (by kernel_rfl) (by kernel_rfl) (by kernel_rfl) (fun _ _ _ h => hp0 _ _ _ _ _ h) (Or.inl ⟨by rfl, by (intro W hSw; clear hSw; go_simp)⟩) ⟨blk_cell H0.out.1.wr.wb 2 rfl, H0.out.2⟩ ?_
        simp only [Act.put, List.getElem_toArray, List.getElem_cons_succ, List.getElem_cons_zero, List.setIfInBounds_toArray, List.set_cons_zero, List.set_cons_succ]
        refine wpAnyH_take (i := 16) (v := .pointer (some ⟨wr.heap.size, 3, none⟩)) rfl (by kernel_rfl) (by kernel_rfl) (by kernel_rfl) (fun _ _ _ h => hp0 _ _ _ _ _ h) (Or.inl ⟨by rfl, by (intro W hSw; clear hSw; go_simp)⟩) ⟨blk_cell H0.out.1.wr.wb 2 rfl, H0.out.2⟩ ?_
        simp only [Act.put, List.getElem_toArray, List.getElem_cons_succ, List.getElem_cons_zero, List.setIfInBounds_toArray, List.set_cons_zero, List.set_cons_succ]
        refine wpAnyH_take (i := 17) (v := .int .i64 d.make.hi) rfl (by kernel_rfl) (by kernel_rfl) (by kernel_rfl) (fun _ _ _ h => hp0 _ _ _ _ _ h) (Or.inl ⟨by rfl, by (intro W hSw; have c := blk_cell hSw.2 3 rfl; clear hSw; go_simp)⟩) ⟨blk_cell H0.out.1.wr.wb 2 rfl, H0.out.2⟩ ?_
        simp only [Act.put, List.getElem_toArray, List.getElem_cons_succ, List.getElem_cons_zero, List.setIfInBounds_toArray, List.set_cons_zero, List.set_cons_succ]
        refine wpAnyH_take (i := 18) (v := .int .i64 (2 * d.make.hi)) rfl (by kernel_rfl) (by kernel_rfl) (by kernel_rfl) (fun _ _ _ h => hp0 _ _ _ _ _ h) (Or.inl ⟨by rfl, by (intro W hSw; clear hSw; go_simp)⟩) ⟨blk_cell H0.out.1.wr.wb 2 rfl, H0.out.2⟩ ?_
        simp only [Act.put, List.getElem_toArray, List.getElem_cons_succ, List.getElem_cons_zero, List.setIfInBounds_toArray, List.set_cons_zero, List.set_cons_succ]
        refine wpAnyH_take (i := 20) (v := .pointer (some ⟨wr.heap.size, 4, none⟩)) rfl (by kernel_rfl) (by kernel_rfl) (by kernel_rfl) (fun _ _ _ h => hp0 _ _ _ _ _ h) (Or.inl ⟨by rfl, by (intro W hSw; clear hSw; go_simp)⟩) ⟨blk_cell H0.out.1.wr.wb 2 rfl, H0.out.2⟩ ?_
        simp only [Act.put, List.getElem_toArray, List.getElem_cons_succ, List.getElem_cons_zero, List.setIfInBounds_toArray, List.set_cons_zero, List.set_cons_succ]
        refine wpAnyH_take (i := 21) (v := .pointer (some ⟨wr.heap.size, 4, none⟩)) rfl (by kernel_rfl) (by kernel_rfl) (by kernel_rfl) (fun _ _ _ h => hp0 _ _ _ _ _ h) (Or.inl ⟨by rfl, by (intro W hSw; clear hSw; go_simp)⟩) ⟨blk_cell H0.out.1.wr.wb 2 rfl, H0.out.2⟩ ?_
        simp only [Act.put, List.getElem_toArray, List.getElem_cons_succ, List.getElem_cons_zero, List.setIfInBounds_toArray, List.set_cons_zero, List.set_cons_succ]
        refine wpAnyH_take (i := 22) (v := .int .i64 d.loss.lo) rfl (by kernel_rfl) (by kernel_rfl) (by kernel_rfl) (fun _ _ _ h => hp0 _ _ _ _ _ h) (Or.inl ⟨by rfl, by (intro W hSw; have c := blk_cell hSw.2 4 rfl; clear hSw; go_simp)⟩) ⟨blk_cell H0.out.1.wr.wb 2 rfl, H0.out.2⟩ ?_
        simp only [Act.put, List.getElem_toArray, List.getElem_cons_succ, List.getElem_cons_zero, List.setIfInBounds_toArray, List.set_cons_zero, List.set_cons_succ]
        refine wpAnyH_take (i := 23) (v := .int .i64 (2 * d.loss.lo)) rfl (by kernel_rfl) (by kernel_rfl) (by kernel_rfl) (fun _ _ _ h => hp0 _ _ _ _ _ h) (Or.inl ⟨by rfl, by (intro W hSw; clear hSw; go_simp)⟩) ⟨blk_cell H0.out.1.wr.wb 2 rfl, H0.out.2⟩ ?_
        simp only [Act.put, List.getElem_toArray, List.getElem_cons_succ, List.getElem_cons_zero, List.setIfInBounds_toArray, List.set_cons_zero, List.set_cons_succ]
        refine wpAnyH_take (i := 24) (v := .pointer (some ⟨wr.heap.size, 4, none⟩)) rfl (by kernel_rfl) (by kernel_rfl) (by kernel_rfl) (fun _ _ _ h => hp0 _ _ _ _ _ h) (Or.inl ⟨by rfl, by (intro W hSw; clear hSw; go_simp)⟩) ⟨blk_cell H0.out.1.wr.wb 2 rfl, H0.out.2⟩ ?_
        simp only [Act.put, List.getElem_toArray, List.getElem_cons_succ, List.getElem_cons_zero, List.setIfInBounds_toArray, List.set_cons_zero, List.set_cons_succ]
        refine wpAnyH_take (i := 25) (v := .pointer (some ⟨wr.heap.size, 5, none⟩)) rfl (by kernel_rfl) (by kernel_rfl) (by kernel_rfl) (fun _ _ _ h => hp0 _ _ _ _ _ h) (Or.inl ⟨by rfl, by (intro W hSw; clear hSw; go_simp)⟩) ⟨blk_cell H0.out.1.wr.wb 2 rfl, H0.out.2⟩ ?_
        simp only [Act.put, List.getElem_toArray, List.getElem_cons_succ, List.getElem_cons_zero, List.setIfInBounds_toArray, List.set_cons_zero, List.set_cons_succ]
        refine wpAnyH_take (i := 26) (v := .int .i64 d.loss.hi) rfl (by kernel_rfl) (by kernel_rfl) (by kernel_rfl) (fun _ _ _ h => hp0 _ _ _ _ _ h) (Or.inl ⟨by rfl, by (intro W hSw; have c := blk_cell hSw.2 5 rfl; clear hSw; go_simp)⟩) ⟨blk_cell H0.out.1.wr.wb 2 rfl, H0.out.2⟩ ?_
        simp only [Act.put, List.getElem_toArray, List.getElem_cons_succ, List.getElem_cons_zero, List.setIfInBounds_toArray, List.set_cons_zero, List.set_cons_succ]
        refine wpAnyH_take (i := 27) (v := .int .i64 (2 * d.loss.hi)) rfl (by kernel_rfl) (by kernel_rfl) (by kernel_rfl) (fun _ _ _ h => hp0 _ _ _ _ _ h) (Or.inl ⟨by rfl, by (intro W hSw; clear hSw; go_simp)⟩) ⟨blk_cell H0.out.1.wr.wb 2 rfl, H0.out.2⟩ ?_
        simp only [Act.put, List.getElem_toArray, List.getElem_cons_succ, List.getElem_cons_zero, List.setIfInBounds_toArray, List.set_cons_zero, List.set_cons_succ]
        refine wpAnyH_ready (rs := [10]) (by kernel_rfl) (by simp) ?_
        refine AllReadyH.cons (o := _) rfl (fun K hK => ?_) AllReadyH.nil
        go_simp
        go_at_call 55
        refine (span_any _ _ _).mono ?_
        rintro e w' ⟨rfl, rfl⟩
        have H1 : Hid (PQ w5 (2 * stock) (2 * store) (W0.alloc (.cells #[.int .i64 (2 * d.need.lo), .int .i64 (2 * d.need.hi)] 24)) sv vN vM vL dT N2 M2 L2 ∧ (W0.alloc (.cells #[.int .i64 (2 * d.need.lo), .int .i64 (2 * d.need.hi)] 24)).heap[wr.heap.size]? = some (.cells #[.int .i64 d.need.lo, .int .i64 d.need.hi, .int .i64 d.make.lo, .int .i64 d.make.hi, .int .i64 d.loss.lo, .int .i64 d.loss.hi] 97 (0, 0))) := ⟨H0.out.1.below ((Below.refl _ _).alloc (Nat.le_refl _) _), alk H0.out.2⟩
        refine hK.out _ _ ⟨blk_cell H1.out.1.wr.wb 2 rfl, H1.out.2⟩ (fun _ => ?_)
        clear hK
        generalize (W0.alloc (.cells #[.int .i64 (2 * d.need.lo), .int .i64 (2 * d.need.hi)] 24)) = W1 at H1 ⊢
        simp only [List.setIfInBounds_toArray, List.set_cons_zero, List.set_cons_succ]
        refine wpAnyH_ready (rs := [19]) (by kernel_rfl) (by simp) ?_
        refine AllReadyH.cons (o := _) rfl (fun K hK => ?_) AllReadyH.nil
        go_simp
        go_at_call 55
        refine (span_any _ _ _).mono ?_
        rintro e w' ⟨rfl, rfl⟩
        have H2 : Hid (PQ w5 (2 * stock) (2 * store) (W1.alloc (.cells #[.int .i64 (2 * d.make.lo), .int .i64 (2 * d.make.hi)] 24)) sv vN vM vL dT N2 M2 L2 ∧ (W1.alloc (.cells #[.int .i64 (2 * d.make.lo), .int .i64 (2 * d.make.hi)] 24)).heap[wr.heap.size]? = some (.cells #[.int .i64 d.need.lo, .int .i64 d.need.hi, .int .i64 d.make.lo, .int .i64 d.make.hi, .int .i64 d.loss.lo, .int .i64 d.loss.hi] 97 (0, 0))) := ⟨H1.out.1.below ((Below.refl _ _).alloc (Nat.le_refl _) _), alk H1.out.2⟩
        refine hK.out _ _ ⟨blk_cell H2.out.1.wr.wb 2 rfl, H2.out.2⟩ (fun _ => ?_)
        clear hK
        generalize (W1.alloc (.cells #[.int .i64 (2 * d.make.lo), .int .i64 (2 * d.make.hi)] 24)) = W2 at H2 ⊢
        simp only [List.setIfInBounds_toArray, List.set_cons_zero, List.set_cons_succ]
        refine wpAnyH_ready (rs := [28]) (by kernel_rfl) (by simp) ?_
        refine AllReadyH.cons (o := _) rfl (fun K hK => ?_) AllReadyH.nil
        go_simp
        go_at_call 55
        refine (span_any _ _ _).mono ?_
        rintro e w' ⟨rfl, rfl⟩
        have H3 : Hid (PQ w5 (2 * stock) (2 * store) (W2.alloc (.cells #[.int .i64 (2 * d.loss.lo), .int .i64 (2 * d.loss.hi)] 24)) sv vN vM vL dT N2 M2 L2 ∧ (W2.alloc (.cells #[.int .i64 (2 * d.loss.lo), .int .i64 (2 * d.loss.hi)] 24)).heap[wr.heap.size]? = some (.cells #[.int .i64 d.need.lo, .int .i64 d.need.hi, .int .i64 d.make.lo, .int .i64 d.make.hi, .int .i64 d.loss.lo, .int .i64 d.loss.hi] 97 (0, 0))) := ⟨H2.out.1.below ((Below.refl _ _).alloc (Nat.le_refl _) _), alk H2.out.2⟩
        refine hK.out _ _ ⟨blk_cell H3.out.1.wr.wb 2 rfl, H3.out.2⟩ (fun _ => ?_)
        clear hK
        generalize (W2.alloc (.cells #[.int .i64 (2 * d.loss.lo), .int .i64 (2 * d.loss.hi)] 24)) = W3 at H3 ⊢
        simp only [List.setIfInBounds_toArray, List.set_cons_zero, List.set_cons_succ]
        refine wpAnyH_take (i := 29) (v := .agg #[.int .i64 (2 * d.need.lo), .int .i64 (2 * d.need.hi), .int .i64 (2 * d.make.lo), .int .i64 (2 * d.make.hi), .int .i64 (2 * d.loss.lo), .int .i64 (2 * d.loss.hi)]) rfl (by kernel_rfl) (by kernel_rfl) (by kernel_rfl) (fun _ _ _ h => hp0 _ _ _ _ _ h) (Or.inl ⟨by rfl, by (intro W hSw; clear hSw; go_simp)⟩) ⟨blk_cell H3.out.1.wr.wb 2 rfl, H3.out.2⟩ ?_
        simp only [Act.put, List.getElem_toArray, List.getElem_cons_succ, List.getElem_cons_zero, List.setIfInBounds_toArray, List.set_cons_zero, List.set_cons_succ]
        refine wpAnyH_ready (rs := [30]) (by kernel_rfl) (by simp) ?_
        refine AllReadyH.cons (o := _) rfl (fun K hK => ?_) AllReadyH.nil
        go_simp
        have H4 : Hid (PQ w5 (2 * stock) (2 * store) (W3.alloc (.cells #[.int .i64 (2 * d.need.lo), .int .i64 (2 * d.need.hi), .int .i64 (2 * d.make.lo), .int .i64 (2 * d.make.hi), .int .i64 (2 * d.loss.lo), .int .i64 (2 * d.loss.hi)] 97)) sv vN vM vL dT N2 M2 L2 ∧ (W3.alloc (.cells #[.int .i64 (2 * d.need.lo), .int .i64 (2 * d.need.hi), .int .i64 (2 * d.make.lo), .int .i64 (2 * d.make.hi), .int .i64 (2 * d.loss.lo), .int .i64 (2 * d.loss.hi)] 97)).heap[wr.heap.size]? = some (.cells #[.int .i64 d.need.lo, .int .i64 d.need.hi, .int .i64 d.make.lo, .int .i64 d.make.hi, .int .i64 d.loss.lo, .int .i64 d.loss.hi] 97 (0, 0))) := ⟨H3.out.1.below ((Below.refl _ _).alloc (Nat.le_refl _) _), alk H3.out.2⟩
        have PC : Hid (∀ j u, ((Dy.cells d.dbl).map (Value.int .i64))[j]? = some u → (W3.alloc (.cells #[.int .i64 (2 * d.need.lo), .int .i64 (2 * d.need.hi), .int .i64 (2 * d.make.lo), .int .i64 (2 * d.make.hi), .int .i64 (2 * d.loss.lo), .int .i64 (2 * d.loss.hi)] 97)).cell? ((⟨W3.heap.size, 0, none⟩ : Addr).add j) = some u) := cells_newD W3 d.dbl
        refine hK.out _ _ ⟨blk_cell H4.out.1.wr.wb 2 rfl, H4.out.2⟩ (fun _ => ?_)
        clear hK
        generalize (W3.alloc (.cells #[.int .i64 (2 * d.need.lo), .int .i64 (2 * d.need.hi), .int .i64 (2 * d.make.lo), .int .i64 (2 * d.make.hi), .int .i64 (2 * d.loss.lo), .int .i64 (2 * d.loss.hi)] 97)) = W4 at H4 PC ⊢
        simp only [List.setIfInBounds_toArray, List.set_cons_zero, List.set_cons_succ]
        refine wpAnyH_ready (rs := [31]) (by kernel_rfl) (by simp) ?_
        refine AllReadyH.cons (o := _) rfl (fun K hK => ?_) AllReadyH.nil
        refine step_append_lies _ rfl (.tmp 59) (.tmp 88) 58 rfl (w5.heap.size + 1 + 1) 97 j0 (.agg #[.int .i64 0, .int .i64 0, .int .i64 0, .int .i64 0, .int .i64 0, .int .i64 0]) 6 48 Try.underlying58 hj hjz0 hjz1 hjz2 rfl (by decide) sv dT.length (flatD dT) rfl H4.out.1.wr.row ⟨W3.heap.size, 0, none⟩ 1 1 ((Dy.cells d.dbl).map (Value.int .i64)) rfl rfl PC.out (by intro u hu; obtain ⟨x, _, rfl⟩ := List.mem_map.1 hu; rfl) (by decide) (by unfold maxLen; omega) (by omega) (by have := lt_of_block H4.out.1.tr.tb; omega) _ rfl ?_
        intro g c W5 hown hgrow hat _
        have HZ := Lib.hid (H4.out.1.more hown hgrow)
        have HB5 := Lib.hid (H4.out.1.box hgrow)
        have HX5 : Hid (W5.heap[wr.heap.size]? = some (.cells #[.int .i64 d.need.lo, .int .i64 d.need.hi, .int .i64 d.make.lo, .int .i64 d.make.hi, .int .i64 d.loss.lo, .int .i64 d.loss.hi] 97 (0, 0))) := (hgrow.block _ (lt_of_block H4.out.2) (fun e => HSV.out e.symm)).trans H4.out.2
        clear hown hgrow hat
        refine hK.out _ _ ⟨blk_cell HB5.out 2 rfl, HX5.out⟩ (fun _ => ?_)
        clear hK
        simp only [Act.put, List.getElem_toArray, List.getElem_cons_succ, List.getElem_cons_zero, List.setIfInBounds_toArray, List.set_cons_zero, List.set_cons_succ]
        refine wpAnyH_take (i := 32) (v := .pointer (some ⟨w5.heap.size, 2, none⟩)) rfl (by kernel_rfl) (by kernel_rfl) (by kernel_rfl) (fun _ _ _ h => hp0 _ _ _ _ _ h) (Or.inl ⟨by rfl, by (intro W hSw; clear hSw; go_simp)⟩) ⟨blk_cell HB5.out 2 rfl, HX5.out⟩ ?_
        simp only [Act.put, List.getElem_toArray, List.getElem_cons_succ, List.getElem_cons_zero, List.setIfInBounds_toArray, List.set_cons_zero, List.set_cons_succ]
        refine wpAnyH_done (by kernel_rfl) (HN0.out _ _ ?_) _
        show wpList _ _ _ (opsAt _ [33]) _ _
        simp only [opsAt, List.filterMap_cons, List.filterMap_nil, List.getElem?_toArray, List.getElem?_cons_succ, List.getElem?_cons_zero]
        have u2 := blk_cell HB5.out 2 rfl
        have f2 := blk_free (j := 2) HB5.out
        go_upto_region 11 with (fail)
        clear u2 f2 HB5 HX5 H0 H1 H2 H3 H4 PC HW0 q1 q2 q3 q4 q5 q6
        generalize hsv2 : Value.slice (some ⟨g, 0, none⟩) (dT.length + 1) c = sv2 at HZ ⊢
        clear hsv2
        generalize W5.setCell ⟨w5.heap.size, 2, none⟩ sv2 = Wy at HZ ⊢
        obtain ⟨dT2, hdT2⟩ : ∃ x, dT ++ [d.dbl] = x := ⟨_, rfl⟩
        rw [hdT2] at HZ
        obtain ⟨bN, oN, rfl, hbN, hcN⟩ := HT.out.2.1.n (by have := HSK.out.1.1; omega)
        obtain ⟨bM, oM, rfl, hbM, hcM⟩ := HT.out.2.1.m (by have := HSK.out.1.2.1; omega)
        obtain ⟨bL, oL, rfl, hbL, hcL⟩ := HT.out.2.1.l (by have := HSK.out.1.2.2; omega)
        obtain ⟨xN, hxN⟩ : ∃ x, N[j]? = some x := ⟨_, List.getElem?_eq_getElem (by have := HSK.out.1.1; omega)⟩
        obtain ⟨xM, hxM⟩ : ∃ x, M[j]? = some x := ⟨_, List.getElem?_eq_getElem (by have := HSK.out.1.2.1; omega)⟩
        obtain ⟨xL, hxL⟩ : ∃ x, L[j]? = some x := ⟨_, List.getElem?_eq_getElem (by have := HSK.out.1.2.2; omega)⟩
        have cN := hcN j (by have := HSK.out.1.1; omega)
        have cM := hcM j (by have := HSK.out.1.2.1; omega)
        have cL := hcL j (by have := HSK.out.1.2.2; omega)
        rw [hxN, Option.getD_some] at cN
        rw [hxM, Option.getD_some] at cM
        rw [hxL, Option.getD_some] at cL
        have hbd := HSK.out.bd (win_ok HW.out).2.2
        have kN := hbd.1 xN (List.mem_of_getElem? hxN)
        have kM := hbd.2.1 xM (List.mem_of_getElem? hxM)
        have kL := hbd.2.2 xL (List.mem_of_getElem? hxL)
        have p1 : IntKind.i64.wrap (2 * xN) = 2 * xN := IntWalk.i64_in _ (by omega)
        have p2 : IntKind.i64.wrap (2 * xM) = 2 * xM := IntWalk.i64_in _ (by omega)
        have p3 : IntKind.i64.wrap (2 * xL) = 2 * xL := IntWalk.i64_in _ (by omega)
        have SC : Hid (∀ W', Below w5.heap.size w5 W' → (W'.cell? ⟨B, 0, none⟩ = some (.slice (some ⟨bN, oN, none⟩) ds.length cn) ∧ W'.cell? ⟨B, 1, none⟩ = some (.slice (some ⟨bM, oM, none⟩) ds.length cm) ∧ W'.cell? ⟨B, 2, none⟩ = some (.slice (some ⟨bL, oL, none⟩) ds.length cl)) ∧ (W'.cell? ⟨bN, oN + j, none⟩ = some (.int .i64 xN) ∧ W'.cell? ⟨bM, oM + j, none⟩ = some (.int .i64 xM) ∧ W'.cell? ⟨bL, oL + j, none⟩ = some (.int .i64 xL))) := fun W' hb => ⟨⟨blk_cell (blk_below HT.out.2.1.tb hb) 0 rfl, blk_cell (blk_below HT.out.2.1.tb hb) 1 rfl, blk_cell (blk_below HT.out.2.1.tb hb) 2 rfl⟩, (hb.cell (p := ⟨bN, oN + j, none⟩) hbN).trans cN, (hb.cell (p := ⟨bM, oM + j, none⟩) hbM).trans cM, (hb.cell (p := ⟨bL, oL + j, none⟩) hbL).trans cL⟩
        have HE2 : Hid (dT2 = (ds.take (j + 1)).map Dy.dbl ∧ N2 ++ [2 * xN] = (N.take (j + 1)).map (2 * ·) ∧ M2 ++ [2 * xM] = (M.take (j + 1)).map (2 * ·) ∧ L2 ++ [2 * xL] = (L.take (j + 1)).map (2 * ·)) := by
          obtain ⟨h0, h1, h2, h3⟩ := hE.out
          exact ⟨by rw [← hdT2, h0]; exact HDB.out, by rw [h1]; exact two_more hxN, by rw [h2]; exact two_more hxM, by rw [h3]; exact two_more hxL⟩
        clear hcN hcM hcL hxN hxM hxL cN cM cL hbd kN kM kL hdT2 hE
        refine wp_region_split (S := fun W' => (W'.cell? ⟨w5.heap.size + 1, 0, none⟩ = some vN ∧ W'.cell? ⟨w5.heap.size + 1, 1, none⟩ = some vM ∧ W'.cell? ⟨w5.heap.size + 1, 2, none⟩ = some vL) ∧ (W'.cell? ⟨B, 0, none⟩ = some (.slice (some ⟨bN, oN, none⟩) ds.length cn) ∧ W'.cell? ⟨B, 1, none⟩ = some (.slice (some ⟨bM, oM, none⟩) ds.length cm) ∧ W'.cell? ⟨B, 2, none⟩ = some (.slice (some ⟨bL, oL, none⟩) ds.length cl)) ∧ (W'.cell? ⟨bN, oN + j, none⟩ = some (.int .i64 xN) ∧ W'.cell? ⟨bM, oM + j, none⟩ = some (.int .i64 xM) ∧ W'.cell? ⟨bL, oL + j, none⟩ = some (.int .i64 xL))) [31, 32, 33, 34, 35] 31 (by kernel_rfl) (by kernel_rfl) rfl ?_
        refine hide_Q (fun _ _ _ _ _ h => h) (fun Q0 hp0 hn0 => ?_)
        have HN0 := Lib.hid hn0
        clear hn0
        have H0 : Hid (TR w5 (w5.heap.size + 1) vN vM vL Wy.drew vN vM vL N2 M2 L2 ∧ WR Wy.drew w5.heap.size (w5.heap.size + 1 + 1) (2 * stock) (2 * store) sv2 dT2) := ⟨HZ.out.tr.below (Below.refl _ _).drew, HZ.out.wr.below (Below.refl _ _).drew⟩
        generalize Wy.drew = W0 at H0 ⊢
        rw [show firstL _ [31, 32, 33, 34, 35] = #[false, false, false, false, false, false, false, false, false, false, false, false, false, false, false, false, false, false, false, false, false, false, false, false, false, false, false, false, false, false, false, true, true, true, true, true] from by kernel_rfl]
        refine wpAnyH_take (i := 0) (v := .pointer (some ⟨w5.heap.size + 1, 0, none⟩)) rfl (by kernel_rfl) (by kernel_rfl) (by kernel_rfl) (fun _ _ _ h => hp0 _ _ _ _ _ h) (Or.inl ⟨by rfl, by (intro W hSw; clear hSw; go_simp)⟩) ⟨⟨blk_cell H0.out.1.tb 0 rfl, blk_cell H0.out.1.tb 1 rfl, blk_cell H0.out.1.tb 2 rfl⟩, SC.out _ H0.out.1.b⟩ ?_
        simp only [Act.put, List.getElem_toArray, List.getElem_cons_zero, List.setIfInBounds_toArray, List.set_cons_zero, List.set_cons_succ]
        refine wpAnyH_take (i := 1) (v := vN) rfl (by kernel_rfl) (by kernel_rfl) (by kernel_rfl) (fun _ _ _ h => hp0 _ _ _ _ _ h) (Or.inl ⟨by rfl, by (intro W hSw; have c := hSw.1.1; clear hSw; go_simp)⟩) ⟨⟨blk_cell H0.out.1.tb 0 rfl, blk_cell H0.out.1.tb 1 rfl, blk_cell H0.out.1.tb 2 rfl⟩, SC.out _ H0.out.1.b⟩ ?_
        simp only [Act.put, List.getElem_toArray, List.getElem_cons_succ, List.getElem_cons_zero, List.setIfInBounds_toArray, List.set_cons_zero, List.set_cons_succ]
        refine wpAnyH_take (i := 2) (v := .pointer (some ⟨B, 0, none⟩)) rfl (by kernel_rfl) (by kernel_rfl) (by kernel_rfl) (fun _ _ _ h => hp0 _ _ _ _ _ h) (Or.inl ⟨by rfl, by (intro W hSw; clear hSw; go_simp)⟩) ⟨⟨blk_cell H0.out.1.tb 0 rfl, blk_cell H0.out.1.tb 1 rfl, blk_cell H0.out.1.tb 2 rfl⟩, SC.out _ H0.out.1.b⟩ ?_
        simp only [Act.put, List.getElem_toArray, List.getElem_cons_succ, List.getElem_cons_zero, List.setIfInBounds_toArray, List.set_cons_zero, List.set_cons_succ]
        refine wpAnyH_take (i := 3) (v := .slice (some ⟨bN, oN, none⟩) ds.length cn) rfl (by kernel_rfl) (by kernel_rfl) (by kernel_rfl) (fun _ _ _ h => hp0 _ _ _ _ _ h) (Or.inl ⟨by rfl, by (intro W hSw; have c := hSw.2.1.1; clear hSw; go_simp)⟩) ⟨⟨blk_cell H0.out.1.tb 0 rfl, blk_cell H0.out.1.tb 1 rfl, blk_cell H0.out.1.tb 2 rfl⟩, SC.out _ H0.out.1.b⟩ ?_
        simp only [Act.put, List.getElem_toArray, List.getElem_cons_succ, List.getElem_cons_zero, List.setIfInBounds_toArray, List.set_cons_zero, List.set_cons_succ]
        refine wpAnyH_take (i := 4) (v := .int .i64 j) rfl (by kernel_rfl) (by kernel_rfl) (by kernel_rfl) (fun _ _ _ h => hp0 _ _ _ _ _ h) (Or.inl ⟨by rfl, by (intro W hSw; clear hSw; go_simp)⟩) ⟨⟨blk_cell H0.out.1.tb 0 rfl, blk_cell H0.out.1.tb 1 rfl, blk_cell H0.out.1.tb 2 rfl⟩, SC.out _ H0.out.1.b⟩ ?_
        simp only [Act.put, List.getElem_toArray, List.getElem_cons_succ, List.getElem_cons_zero, List.setIfInBounds_toArray, List.set_cons_zero, List.set_cons_succ]
        refine wpAnyH_take (i := 5) (v := .pointer (some ⟨bN, oN + j, none⟩)) rfl (by kernel_rfl) (by kernel_rfl) (by kernel_rfl) (fun _ _ _ h => hp0 _ _ _ _ _ h) (Or.inl ⟨by rfl, by (intro W hSw; clear hSw; go_simp)⟩) ⟨⟨blk_cell H0.out.1.tb 0 rfl, blk_cell H0.out.1.tb 1 rfl, blk_cell H0.out.1.tb 2 rfl⟩, SC.out _ H0.out.1.b⟩ ?_
        simp only [Act.put, List.getElem_toArray, List.getElem_cons_succ, List.getElem_cons_zero, List.setIfInBounds_toArray, List.set_cons_zero, List.set_cons_succ]
        refine wpAnyH_take (i := 6) (v := .int .i64 xN) rfl (by kernel_rfl) (by kernel_rfl) (by kernel_rfl) (fun _ _ _ h => hp0 _ _ _ _ _ h) (Or.inl ⟨by rfl, by (intro W hSw; have c := hSw.2.2.1; clear hSw; go_simp)⟩) ⟨⟨blk_cell H0.out.1.tb 0 rfl, blk_cell H0.out.1.tb 1 rfl, blk_cell H0.out.1.tb 2 rfl⟩, SC.out _ H0.out.1.b⟩ ?_
        simp only [Act.put, List.getElem_toArray, List.getElem_cons_succ, List.getElem_cons_zero, List.setIfInBounds_toArray, List.set_cons_zero, List.set_cons_succ]
        refine wpAnyH_take (i := 7) (v := .int .i64 (2 * xN)) rfl (by kernel_rfl) (by kernel_rfl) (by kernel_rfl) (fun _ _ _ h => hp0 _ _ _ _ _ h) (Or.inl ⟨by rfl, by (intro W hSw; clear hSw; go_simp)⟩) ⟨⟨blk_cell H0.out.1.tb 0 rfl, blk_cell H0.out.1.tb 1 rfl, blk_cell H0.out.1.tb 2 rfl⟩, SC.out _ H0.out.1.b⟩ ?_
        simp only [Act.put, List.getElem_toArray, List.getElem_cons_succ, List.getElem_cons_zero, List.setIfInBounds_toArray, List.set_cons_zero, List.set_cons_succ]
        refine wpAnyH_take (i := 10) (v := .pointer (some ⟨w5.heap.size + 1, 1, none⟩)) rfl (by kernel_rfl) (by kernel_rfl) (by kernel_rfl) (fun _ _ _ h => hp0 _ _ _ _ _ h) (Or.inl ⟨by rfl, by (intro W hSw; clear hSw; go_simp)⟩) ⟨⟨blk_cell H0.out.1.tb 0 rfl, blk_cell H0.out.1.tb 1 rfl, blk_cell H0.out.1.tb 2 rfl⟩, SC.out _ H0.out.1.b⟩ ?_
        simp only [Act.put, List.getElem_toArray, List.getElem_cons_succ, List.getElem_cons_zero, List.setIfInBounds_toArray, List.set_cons_zero, List.set_cons_succ]
        refine wpAnyH_take (i := 11) (v := vM) rfl (by kernel_rfl) (by kernel_rfl) (by kernel_rfl) (fun _ _ _ h => hp0 _ _ _ _ _ h) (Or.inl ⟨by rfl, by (intro W hSw; have c := hSw.1.2.1; clear hSw; go_simp)⟩) ⟨⟨blk_cell H0.out.1.tb 0 rfl, blk_cell H0.out.1.tb 1 rfl, blk_cell H0.out.1.tb 2 rfl⟩, SC.out _ H0.out.1.b⟩ ?_
        simp only [Act.put, List.getElem_toArray, List.getElem_cons_succ, List.getElem_cons_zero, List.setIfInBounds_toArray, List.set_cons_zero, List.set_cons_succ]
        refine wpAnyH_take (i := 12) (v := .pointer (some ⟨B, 1, none⟩)) rfl (by kernel_rfl) (by kernel_rfl) (by kernel_rfl) (fun _ _ _ h => hp0 _ _ _ _ _ h) (Or.inl ⟨by rfl, by (intro W hSw; clear hSw; go_simp)⟩) ⟨⟨blk_cell H0.out.1.tb 0 rfl, blk_cell H0.out.1.tb 1 rfl, blk_cell H0.out.1.tb 2 rfl⟩, SC.out _ H0.out.1.b⟩ ?_
        simp only [Act.put, List.getElem_toArray, List.getElem_cons_succ, List.getElem_cons_zero, List.setIfInBounds_toArray, List.set_cons_zero, List.set_cons_succ]
        refine wpAnyH_take (i := 13) (v := .slice (some ⟨bM, oM, none⟩) ds.length cm) rfl (by kernel_rfl) (by kernel_rfl) (by kernel_rfl) (fun _ _ _ h => hp0 _ _ _ _ _ h) (Or.inl ⟨by rfl, by (intro W hSw; have c := hSw.2.1.2.1; clear hSw; go_simp)⟩) ⟨⟨blk_cell H0.out.1.tb 0 rfl, blk_cell H0.out.1.tb 1 rfl, blk_cell H0.out.1.tb 2 rfl⟩, SC.out _ H0.out.1.b⟩ ?_
        simp only [Act.put, List.getElem_toArray, List.getElem_cons_succ, List.getElem_cons_zero, List.setIfInBounds_toArray, List.set_cons_zero, List.set_cons_succ]
        refine wpAnyH_take (i := 14) (v := .int .i64 j) rfl (by kernel_rfl) (by kernel_rfl) (by kernel_rfl) (fun _ _ _ h => hp0 _ _ _ _ _ h) (Or.inl ⟨by rfl, by (intro W hSw; clear hSw; go_simp)⟩) ⟨⟨blk_cell H0.out.1.tb 0 rfl, blk_cell H0.out.1.tb 1 rfl, blk_cell H0.out.1.tb 2 rfl⟩, SC.out _ H0.out.1.b⟩ ?_
        simp only [Act.put, List.getElem_toArray, List.getElem_cons_succ, List.getElem_cons_zero, List.setIfInBounds_toArray, List.set_cons_zero, List.set_cons_succ]
        refine wpAnyH_take (i := 15) (v := .pointer (some ⟨bM, oM + j, none⟩)) rfl (by kernel_rfl) (by kernel_rfl) (by kernel_rfl) (fun _ _ _ h => hp0 _ _ _ _ _ h) (Or.inl ⟨by rfl, by (intro W hSw; clear hSw; go_simp)⟩) ⟨⟨blk_cell H0.out.1.tb 0 rfl, blk_cell H0.out.1.tb 1 rfl, blk_cell H0.out.1.tb 2 rfl⟩, SC.out _ H0.out.1.b⟩ ?_
        simp only [Act.put, List.getElem_toArray, List.getElem_cons_succ, List.getElem_cons_zero, List.setIfInBounds_toArray, List.set_cons_zero, List.set_cons_succ]
        refine wpAnyH_take (i := 16) (v := .int .i64 xM) rfl (by kernel_rfl) (by kernel_rfl) (by kernel_rfl) (fun _ _ _ h => hp0 _ _ _ _ _ h) (Or.inl ⟨by rfl, by (intro W hSw; have c := hSw.2.2.2.1; clear hSw; go_simp)⟩) ⟨⟨blk_cell H0.out.1.tb 0 rfl, blk_cell H0.out.1.tb 1 rfl, blk_cell H0.out.1.tb 2 rfl⟩, SC.out _ H0.out.1.b⟩ ?_
        simp only [Act.put, List.getElem_toArray, List.getElem_cons_succ, List.getElem_cons_zero, List.setIfInBounds_toArray, List.set_cons_zero, List.set_cons_succ]
        refine wpAnyH_take (i := 17) (v := .int .i64 (2 * xM)) rfl (by kernel_rfl) (by kernel_rfl) (by kernel_rfl) (fun _ _ _ h => hp0 _ _ _ _ _ h) (Or.inl ⟨by rfl, by (intro W hSw; clear hSw; go_simp)⟩) ⟨⟨blk_cell H0.out.1.tb 0 rfl, blk_cell H0.out.1.tb 1 rfl, blk_cell H0.out.1.tb 2 rfl⟩, SC.out _ H0.out.1.b⟩ ?_
        simp only [Act.put, List.getElem_toArray, List.getElem_cons_succ, List.getElem_cons_zero, List.setIfInBounds_toArray, List.set_cons_zero, List.set_cons_succ]
        refine wpAnyH_take (i := 20) (v := .pointer (some ⟨w5.heap.size + 1, 2, none⟩)) rfl (by kernel_rfl) (by kernel_rfl) (by kernel_rfl) (fun _ _ _ h => hp0 _ _ _ _ _ h) (Or.inl ⟨by rfl, by (intro W hSw; clear hSw; go_simp)⟩) ⟨⟨blk_cell H0.out.1.tb 0 rfl, blk_cell H0.out.1.tb 1 rfl, blk_cell H0.out.1.tb 2 rfl⟩, SC.out _ H0.out.1.b⟩ ?_
        simp only [Act.put, List.getElem_toArray, List.getElem_cons_succ, List.getElem_cons_zero, List.setIfInBounds_toArray, List.set_cons_zero, List.set_cons_succ]
        refine wpAnyH_take (i := 21) (v := vL) rfl (by kernel_rfl) (by kernel_rfl) (by kernel_rfl) (fun _ _ _ h => hp0 _ _ _ _ _ h) (Or.inl ⟨by rfl, by (intro W hSw; have c := hSw.1.2.2; clear hSw; go_simp)⟩) ⟨⟨blk_cell H0.out.1.tb 0 rfl, blk_cell H0.out.1.tb 1 rfl, blk_cell H0.out.1.tb 2 rfl⟩, SC.out _ H0.out.1.b⟩ ?_
        simp only [Act.put, List.getElem_toArray, List.getElem_cons_succ, List.getElem_cons_zero, List.setIfInBounds_toArray, List.set_cons_zero, List.set_cons_succ]
        refine wpAnyH_take (i := 22) (v := .pointer (some ⟨B, 2, none⟩)) rfl (by kernel_rfl) (by kernel_rfl) (by kernel_rfl) (fun _ _ _ h => hp0 _ _ _ _ _ h) (Or.inl ⟨by rfl, by (intro W hSw; clear hSw; go_simp)⟩) ⟨⟨blk_cell H0.out.1.tb 0 rfl, blk_cell H0.out.1.tb 1 rfl, blk_cell H0.out.1.tb 2 rfl⟩, SC.out _ H0.out.1.b⟩ ?_
        simp only [Act.put, List.getElem_toArray, List.getElem_cons_succ, List.getElem_cons_zero, List.setIfInBounds_toArray, List.set_cons_zero, List.set_cons_succ]
        refine wpAnyH_take (i := 23) (v := .slice (some ⟨bL, oL, none⟩) ds.length cl) rfl (by kernel_rfl) (by kernel_rfl) (by kernel_rfl) (fun _ _ _ h => hp0 _ _ _ _ _ h) (Or.inl ⟨by rfl, by (intro W hSw; have c := hSw.2.1.2.2; clear hSw; go_simp)⟩) ⟨⟨blk_cell H0.out.1.tb 0 rfl, blk_cell H0.out.1.tb 1 rfl, blk_cell H0.out.1.tb 2 rfl⟩, SC.out _ H0.out.1.b⟩ ?_
        simp only [Act.put, List.getElem_toArray, List.getElem_cons_succ, List.getElem_cons_zero, List.setIfInBounds_toArray, List.set_cons_zero, List.set_cons_succ]
        refine wpAnyH_take (i := 24) (v := .int .i64 j) rfl (by kernel_rfl) (by kernel_rfl) (by kernel_rfl) (fun _ _ _ h => hp0 _ _ _ _ _ h) (Or.inl ⟨by rfl, by (intro W hSw; clear hSw; go_simp)⟩) ⟨⟨blk_cell H0.out.1.tb 0 rfl, blk_cell H0.out.1.tb 1 rfl, blk_cell H0.out.1.tb 2 rfl⟩, SC.out _ H0.out.1.b⟩ ?_
        simp only [Act.put, List.getElem_toArray, List.getElem_cons_succ, List.getElem_cons_zero, List.setIfInBounds_toArray, List.set_cons_zero, List.set_cons_succ]
        refine wpAnyH_take (i := 25) (v := .pointer (some ⟨bL, oL + j, none⟩)) rfl (by kernel_rfl) (by kernel_rfl) (by kernel_rfl) (fun _ _ _ h => hp0 _ _ _ _ _ h) (Or.inl ⟨by rfl, by (intro W hSw; clear hSw; go_simp)⟩) ⟨⟨blk_cell H0.out.1.tb 0 rfl, blk_cell H0.out.1.tb 1 rfl, blk_cell H0.out.1.tb 2 rfl⟩, SC.out _ H0.out.1.b⟩ ?_
        simp only [Act.put, List.getElem_toArray, List.getElem_cons_succ, List.getElem_cons_zero, List.setIfInBounds_toArray, List.set_cons_zero, List.set_cons_succ]
        refine wpAnyH_take (i := 26) (v := .int .i64 xL) rfl (by kernel_rfl) (by kernel_rfl) (by kernel_rfl) (fun _ _ _ h => hp0 _ _ _ _ _ h) (Or.inl ⟨by rfl, by (intro W hSw; have c := hSw.2.2.2.2; clear hSw; go_simp)⟩) ⟨⟨blk_cell H0.out.1.tb 0 rfl, blk_cell H0.out.1.tb 1 rfl, blk_cell H0.out.1.tb 2 rfl⟩, SC.out _ H0.out.1.b⟩ ?_
        simp only [Act.put, List.getElem_toArray, List.getElem_cons_succ, List.getElem_cons_zero, List.setIfInBounds_toArray, List.set_cons_zero, List.set_cons_succ]
        refine wpAnyH_take (i := 27) (v := .int .i64 (2 * xL)) rfl (by kernel_rfl) (by kernel_rfl) (by kernel_rfl) (fun _ _ _ h => hp0 _ _ _ _ _ h) (Or.inl ⟨by rfl, by (intro W hSw; clear hSw; go_simp)⟩) ⟨⟨blk_cell H0.out.1.tb 0 rfl, blk_cell H0.out.1.tb 1 rfl, blk_cell H0.out.1.tb 2 rfl⟩, SC.out _ H0.out.1.b⟩ ?_
        simp only [Act.put, List.getElem_toArray, List.getElem_cons_succ, List.getElem_cons_zero, List.setIfInBounds_toArray, List.set_cons_zero, List.set_cons_succ]
        refine with_join (fun G l a => ∀ (Wz : World) (o0 : Nat) (o1 : Nat) (o2 : Nat) (gs0 : Nat) (cs0 : Nat) (gs1 : Nat) (cs1 : Nat) (gs2 : Nat) (cs2 : Nat), Hid (TR w5 (w5.heap.size + 1) vN vM vL Wz (.slice (some ⟨gs2, 0, none⟩) (L2.length + 1) cs2) (.slice (some ⟨gs0, 0, none⟩) (N2.length + 1) cs0) (.slice (some ⟨gs1, 0, none⟩) (M2.length + 1) cs1) (L2 ++ [2 * xL]) (N2 ++ [2 * xN]) (M2 ++ [2 * xM]) ∧ WR Wz w5.heap.size (w5.heap.size + 1 + 1) (2 * stock) (2 * store) sv2 dT2) → G 0 (((((((l.setIfInBounds 8 true).setIfInBounds 18 true).setIfInBounds 28 true).setIfInBounds 9 true).setIfInBounds 19 true).setIfInBounds 29 true).setIfInBounds 30 true) (((((((a.put (some 99) (.slice (some ⟨o0, 0, none⟩) 1 1)).put (some 109) (.slice (some ⟨o1, 0, none⟩) 1 1)).put (some 119) (.slice (some ⟨o2, 0, none⟩) 1 1)).put (some 100) (.slice (some ⟨gs0, 0, none⟩) (N2.length + 1) cs0)).put (some 110) (.slice (some ⟨gs1, 0, none⟩) (M2.length + 1) cs1)).put (some 120) (.slice (some ⟨gs2, 0, none⟩) (L2.length + 1) cs2)).put (some 121) (.pointer (some ⟨w5.heap.size + 1, 0, none⟩))) Wz) ?_ (fun J012_3 => ?_)
        · intro Wz o0 o1 o2 gs0 cs0 gs1 cs1 gs2 cs2 Hz
          simp only [Act.put, List.setIfInBounds_toArray, set99, set109, set119, set100, set110, set120, set121, setb_zero, setb_succ]
          refine wpAnyH_done (by kernel_rfl) (HN0.out _ _ ?_) _
          show wpList _ _ _ (opsAt _ [31, 32, 33, 34, 35]) _ _
          simp only [opsAt, List.filterMap_cons, List.filterMap_nil, List.getElem?_toArray, List.getElem?_cons_succ, List.getElem?_cons_zero]
          have HZ2 := PQ.put (Hz.out.1.rot) Hz.out.2
          have hdl := HF.out.2.2.1
          have t0 := blk_cell Hz.out.1.tb 0 rfl
          have t1 := blk_cell Hz.out.1.tb 1 rfl
          have t2 := blk_cell Hz.out.1.tb 2 rfl
          have f0 := blk_free (j := 0) Hz.out.1.tb
          have f1 := blk_free (j := 1) Hz.out.1.tb
          have f2 := blk_free (j := 2) Hz.out.1.tb
          go_wp2_with (fail)
          go_roundw
          case rel => exact ⟨j + 1, _, _, _, _, _, _, _, _, by go_num, by omega, HZ2, HE2⟩
          case measure => simp [intOf]; omega
        simp only [Act.put, List.setIfInBounds_toArray, set99, set109, set119, set100, set110, set120, set121, setb_zero, setb_succ] at J012_3
        refine with_join (fun G l a => ∀ (Wz : World) (o0 : Nat) (o1 : Nat) (gs0 : Nat) (cs0 : Nat) (gs1 : Nat) (cs1 : Nat) (b2 : Nat), Hid (TR w5 (w5.heap.size + 1) vN vM vL Wz (.slice (some ⟨gs1, 0, none⟩) (M2.length + 1) cs1) vL (.slice (some ⟨gs0, 0, none⟩) (N2.length + 1) cs0) (M2 ++ [2 * xM]) L2 (N2 ++ [2 * xN]) ∧ WR Wz w5.heap.size (w5.heap.size + 1 + 1) (2 * stock) (2 * store) sv2 dT2) → Hid (PD Wz b2 (2 * xL) (.slice (some ⟨gs1, 0, none⟩) (M2.length + 1) cs1) vL (.slice (some ⟨gs0, 0, none⟩) (N2.length + 1) cs0)) → G 1 ((((((l.setIfInBounds 8 true).setIfInBounds 18 true).setIfInBounds 28 true).setIfInBounds 9 true).setIfInBounds 19 true).setIfInBounds 30 true) ((((((a.put (some 99) (.slice (some ⟨o0, 0, none⟩) 1 1)).put (some 109) (.slice (some ⟨o1, 0, none⟩) 1 1)).put (some 119) (.slice (some ⟨b2, 0, none⟩) 1 1)).put (some 100) (.slice (some ⟨gs0, 0, none⟩) (N2.length + 1) cs0)).put (some 110) (.slice (some ⟨gs1, 0, none⟩) (M2.length + 1) cs1)).put (some 121) (.pointer (some ⟨w5.heap.size + 1, 0, none⟩))) Wz) ?_ (fun J012_2 => ?_)
        · intro Wz o0 o1 gs0 cs0 gs1 cs1 b2 Hz Q2
          simp only [Act.put, List.setIfInBounds_toArray, set99, set109, set119, set100, set110, set121, setb_zero, setb_succ]
          refine wpAnyH_ready (rs := [29]) (by kernel_rfl) (by simp) ?_
          refine AllReadyH.cons (o := _) rfl (fun K hK => ?_) AllReadyH.nil
          refine step_append_lies _ rfl (.tmp 112) (.tmp 119) 27 rfl (w5.heap.size + 1 + 1) 3 i0 (.int .i64 0) 1 8 Try.underlying27 hi hz0 hz1 hz2 rfl (by decide) vL L2.length (L2.map (Value.int .i64)) rfl Hz.out.1.rot.r.n ⟨b2, 0, none⟩ 1 1 [.int .i64 (2 * xL)] rfl rfl Q2.out.cells (by intro u hu; simp at hu; subst hu; rfl) (by decide) (by unfold maxLen; omega) (by omega) (by have := lt_of_block Hz.out.1.tb; omega) _ rfl ?_
          intro g1 c1 W1 hown hgrow hat _
          have H1 : Hid (TR w5 (w5.heap.size + 1) vN vM vL W1 (.slice (some ⟨g1, 0, none⟩) (L2.length + 1) c1) (.slice (some ⟨gs0, 0, none⟩) (N2.length + 1) cs0) (.slice (some ⟨gs1, 0, none⟩) (M2.length + 1) cs1) (L2 ++ [2 * xL]) (N2 ++ [2 * xN]) (M2 ++ [2 * xM]) ∧ WR W1 w5.heap.size (w5.heap.size + 1 + 1) (2 * stock) (2 * store) sv2 dT2) := ⟨(Hz.out.1.rot).push hown hgrow hat, Hz.out.2.keep (Hz.out.1.rot) hgrow⟩
          clear hown hgrow hat
          refine hK.out _ _ ⟨⟨blk_cell H1.out.1.tb 0 rfl, blk_cell H1.out.1.tb 1 rfl, blk_cell H1.out.1.tb 2 rfl⟩, SC.out _ H1.out.1.b⟩ (fun _ => ?_)
          clear hK
          simp only [Act.put, List.getElem_toArray, List.getElem_cons_succ, List.getElem_cons_zero, List.setIfInBounds_toArray, set120, setb_zero, setb_succ]
          exact J012_3 _ o0 o1 b2 gs0 cs0 gs1 cs1 g1 c1 H1 
        simp only [Act.put, List.setIfInBounds_toArray, set99, set109, set119, set100, set110, set121, setb_zero, setb_succ] at J012_2
        refine with_join (fun G l a => ∀ (Wz : World) (o0 : Nat) (o1 : Nat) (gs0 : Nat) (cs0 : Nat) (gs1 : Nat) (cs1 : Nat), Hid (TR w5 (w5.heap.size + 1) vN vM vL Wz (.slice (some ⟨gs1, 0, none⟩) (M2.length + 1) cs1) vL (.slice (some ⟨gs0, 0, none⟩) (N2.length + 1) cs0) (M2 ++ [2 * xM]) L2 (N2 ++ [2 * xN]) ∧ WR Wz w5.heap.size (w5.heap.size + 1 + 1) (2 * stock) (2 * store) sv2 dT2) → G 2 (((((l.setIfInBounds 8 true).setIfInBounds 18 true).setIfInBounds 9 true).setIfInBounds 19 true).setIfInBounds 30 true) (((((a.put (some 99) (.slice (some ⟨o0, 0, none⟩) 1 1)).put (some 109) (.slice (some ⟨o1, 0, none⟩) 1 1)).put (some 100) (.slice (some ⟨gs0, 0, none⟩) (N2.length + 1) cs0)).put (some 110) (.slice (some ⟨gs1, 0, none⟩) (M2.length + 1) cs1)).put (some 121) (.pointer (some ⟨w5.heap.size + 1, 0, none⟩))) Wz) ?_ (fun J01_2 => ?_)
        · intro Wz o0 o1 gs0 cs0 gs1 cs1 Hz
          simp only [Act.put, List.setIfInBounds_toArray, set99, set109, set100, set110, set121, setb_zero, setb_succ]
          refine wpAnyH_ready (rs := [28]) (by kernel_rfl) (by simp) ?_
          refine AllReadyH.cons (o := _) rfl (fun K hK => ?_) AllReadyH.nil
          go_simp
          have H2 : Hid (TR w5 (w5.heap.size + 1) vN vM vL (Wz.alloc (.cells #[.int .i64 (2 * xL)] 3)) (.slice (some ⟨gs1, 0, none⟩) (M2.length + 1) cs1) vL (.slice (some ⟨gs0, 0, none⟩) (N2.length + 1) cs0) (M2 ++ [2 * xM]) L2 (N2 ++ [2 * xN]) ∧ WR (Wz.alloc (.cells #[.int .i64 (2 * xL)] 3)) w5.heap.size (w5.heap.size + 1 + 1) (2 * stock) (2 * store) sv2 dT2) := ⟨Hz.out.1.below ((Below.refl _ _).alloc (Nat.le_refl _) _), Hz.out.2.below ((Below.refl _ _).alloc (Nat.le_refl _) _)⟩
          have P22 := Lib.hid (PD.new Hz.out.1 (2 * xL))
          refine hK.out _ _ ⟨⟨blk_cell H2.out.1.tb 0 rfl, blk_cell H2.out.1.tb 1 rfl, blk_cell H2.out.1.tb 2 rfl⟩, SC.out _ H2.out.1.b⟩ (fun _ => ?_)
          clear hK
          simp only [List.setIfInBounds_toArray, setb_zero, setb_succ]
          exact J012_2 _ o0 o1 gs0 cs0 gs1 cs1 _ H2 P22
        simp only [Act.put, List.setIfInBounds_toArray, set99, set109, set100, set110, set121, setb_zero, setb_succ] at J01_2
        refine with_join (fun G l a => ∀ (Wz : World) (o0 : Nat) (gs0 : Nat) (cs0 : Nat) (b1 : Nat) (b2 : Nat), Hid (TR w5 (w5.heap.size + 1) vN vM vL Wz (.slice (some ⟨gs0, 0, none⟩) (N2.length + 1) cs0) vM vL (N2 ++ [2 * xN]) M2 L2 ∧ WR Wz w5.heap.size (w5.heap.size + 1 + 1) (2 * stock) (2 * store) sv2 dT2) → Hid (PD Wz b1 (2 * xM) (.slice (some ⟨gs0, 0, none⟩) (N2.length + 1) cs0) vM vL) → Hid (PD Wz b2 (2 * xL) (.slice (some ⟨gs0, 0, none⟩) (N2.length + 1) cs0) vM vL) → G 2 (((((l.setIfInBounds 8 true).setIfInBounds 18 true).setIfInBounds 28 true).setIfInBounds 9 true).setIfInBounds 30 true) (((((a.put (some 99) (.slice (some ⟨o0, 0, none⟩) 1 1)).put (some 109) (.slice (some ⟨b1, 0, none⟩) 1 1)).put (some 119) (.slice (some ⟨b2, 0, none⟩) 1 1)).put (some 100) (.slice (some ⟨gs0, 0, none⟩) (N2.length + 1) cs0)).put (some 121) (.pointer (some ⟨w5.heap.size + 1, 0, none⟩))) Wz) ?_ (fun J012_1 => ?_)
        · intro Wz o0 gs0 cs0 b1 b2 Hz Q1 Q2
          simp only [Act.put, List.setIfInBounds_toArray, set99, set109, set119, set100, set121, setb_zero, setb_succ]
          refine wpAnyH_ready (rs := [19]) (by kernel_rfl) (by simp) ?_
          refine AllReadyH.cons (o := _) rfl (fun K hK => ?_) AllReadyH.nil
          refine step_append_lies _ rfl (.tmp 102) (.tmp 109) 27 rfl (w5.heap.size + 1 + 1) 3 i0 (.int .i64 0) 1 8 Try.underlying27 hi hz0 hz1 hz2 rfl (by decide) vM M2.length (M2.map (Value.int .i64)) rfl Hz.out.1.rot.r.n ⟨b1, 0, none⟩ 1 1 [.int .i64 (2 * xM)] rfl rfl Q1.out.cells (by intro u hu; simp at hu; subst hu; rfl) (by decide) (by unfold maxLen; omega) (by omega) (by have := lt_of_block Hz.out.1.tb; omega) _ rfl ?_
          intro g3 c3 W3 hown hgrow hat _
          have H3 : Hid (TR w5 (w5.heap.size + 1) vN vM vL W3 (.slice (some ⟨g3, 0, none⟩) (M2.length + 1) c3) vL (.slice (some ⟨gs0, 0, none⟩) (N2.length + 1) cs0) (M2 ++ [2 * xM]) L2 (N2 ++ [2 * xN]) ∧ WR W3 w5.heap.size (w5.heap.size + 1 + 1) (2 * stock) (2 * store) sv2 dT2) := ⟨(Hz.out.1.rot).push hown hgrow hat, Hz.out.2.keep (Hz.out.1.rot) hgrow⟩
          have P32 := Lib.hid (PD.push (n := M2.length + 1) (c := c3) (Q2.out.rot) hgrow hat)
          clear hown hgrow hat
          refine hK.out _ _ ⟨⟨blk_cell H3.out.1.tb 0 rfl, blk_cell H3.out.1.tb 1 rfl, blk_cell H3.out.1.tb 2 rfl⟩, SC.out _ H3.out.1.b⟩ (fun _ => ?_)
          clear hK
          simp only [Act.put, List.getElem_toArray, List.getElem_cons_succ, List.getElem_cons_zero, List.setIfInBounds_toArray, set110, setb_zero, setb_succ]
          exact J012_2 _ o0 b1 gs0 cs0 g3 c3 b2 H3 P32
        simp only [Act.put, List.setIfInBounds_toArray, set99, set109, set119, set100, set121, setb_zero, setb_succ] at J012_1
        refine with_join (fun G l a => ∀ (Wz : World) (o0 : Nat) (gs0 : Nat) (cs0 : Nat) (b1 : Nat), Hid (TR w5 (w5.heap.size + 1) vN vM vL Wz (.slice (some ⟨gs0, 0, none⟩) (N2.length + 1) cs0) vM vL (N2 ++ [2 * xN]) M2 L2 ∧ WR Wz w5.heap.size (w5.heap.size + 1 + 1) (2 * stock) (2 * store) sv2 dT2) → Hid (PD Wz b1 (2 * xM) (.slice (some ⟨gs0, 0, none⟩) (N2.length + 1) cs0) vM vL) → G 3 ((((l.setIfInBounds 8 true).setIfInBounds 18 true).setIfInBounds 9 true).setIfInBounds 30 true) ((((a.put (some 99) (.slice (some ⟨o0, 0, none⟩) 1 1)).put (some 109) (.slice (some ⟨b1, 0, none⟩) 1 1)).put (some 100) (.slice (some ⟨gs0, 0, none⟩) (N2.length + 1) cs0)).put (some 121) (.pointer (some ⟨w5.heap.size + 1, 0, none⟩))) Wz) ?_ (fun J01_1 => ?_)
        · intro Wz o0 gs0 cs0 b1 Hz Q1
          simp only [Act.put, List.setIfInBounds_toArray, set99, set109, set100, set121, setb_zero, setb_succ]
          refine wpAnyH_ready (rs := [19, 28]) (by kernel_rfl) (by simp) ?_
          refine AllReadyH.cons (o := _) rfl (fun K hK => ?_) ?_
          · refine step_append_lies _ rfl (.tmp 102) (.tmp 109) 27 rfl (w5.heap.size + 1 + 1) 3 i0 (.int .i64 0) 1 8 Try.underlying27 hi hz0 hz1 hz2 rfl (by decide) vM M2.length (M2.map (Value.int .i64)) rfl Hz.out.1.rot.r.n ⟨b1, 0, none⟩ 1 1 [.int .i64 (2 * xM)] rfl rfl Q1.out.cells (by intro u hu; simp at hu; subst hu; rfl) (by decide) (by unfold maxLen; omega) (by omega) (by have := lt_of_block Hz.out.1.tb; omega) _ rfl ?_
            intro g4 c4 W4 hown hgrow hat _
            have H4 : Hid (TR w5 (w5.heap.size + 1) vN vM vL W4 (.slice (some ⟨g4, 0, none⟩) (M2.length + 1) c4) vL (.slice (some ⟨gs0, 0, none⟩) (N2.length + 1) cs0) (M2 ++ [2 * xM]) L2 (N2 ++ [2 * xN]) ∧ WR W4 w5.heap.size (w5.heap.size + 1 + 1) (2 * stock) (2 * store) sv2 dT2) := ⟨(Hz.out.1.rot).push hown hgrow hat, Hz.out.2.keep (Hz.out.1.rot) hgrow⟩
            clear hown hgrow hat
            refine hK.out _ _ ⟨⟨blk_cell H4.out.1.tb 0 rfl, blk_cell H4.out.1.tb 1 rfl, blk_cell H4.out.1.tb 2 rfl⟩, SC.out _ H4.out.1.b⟩ (fun _ => ?_)
            clear hK
            simp only [Act.put, List.getElem_toArray, List.getElem_cons_succ, List.getElem_cons_zero, List.setIfInBounds_toArray, set110, setb_zero, setb_succ]
            exact J01_2 _ o0 b1 gs0 cs0 g4 c4 H4 
          refine AllReadyH.cons (o := _) rfl (fun K hK => ?_) AllReadyH.nil
          go_simp
          have H5 : Hid (TR w5 (w5.heap.size + 1) vN vM vL (Wz.alloc (.cells #[.int .i64 (2 * xL)] 3)) (.slice (some ⟨gs0, 0, none⟩) (N2.length + 1) cs0) vM vL (N2 ++ [2 * xN]) M2 L2 ∧ WR (Wz.alloc (.cells #[.int .i64 (2 * xL)] 3)) w5.heap.size (w5.heap.size + 1 + 1) (2 * stock) (2 * store) sv2 dT2) := ⟨Hz.out.1.below ((Below.refl _ _).alloc (Nat.le_refl _) _), Hz.out.2.below ((Below.refl _ _).alloc (Nat.le_refl _) _)⟩
          have P51 := Lib.hid (Q1.out.below ((Below.refl Wz.heap.size Wz).alloc (Nat.le_refl _) (.cells #[.int .i64 (2 * xL)] 3)))
          have P52 := Lib.hid (PD.new Hz.out.1 (2 * xL))
          refine hK.out _ _ ⟨⟨blk_cell H5.out.1.tb 0 rfl, blk_cell H5.out.1.tb 1 rfl, blk_cell H5.out.1.tb 2 rfl⟩, SC.out _ H5.out.1.b⟩ (fun _ => ?_)
          clear hK
          simp only [List.setIfInBounds_toArray, setb_zero, setb_succ]
          exact J012_1 _ o0 gs0 cs0 b1 _ H5 P51 P52
        simp only [Act.put, List.setIfInBounds_toArray, set99, set109, set100, set121, setb_zero, setb_succ] at J01_1
        refine with_join (fun G l a => ∀ (Wz : World) (o0 : Nat) (gs0 : Nat) (cs0 : Nat) (b2 : Nat), Hid (TR w5 (w5.heap.size + 1) vN vM vL Wz (.slice (some ⟨gs0, 0, none⟩) (N2.length + 1) cs0) vM vL (N2 ++ [2 * xN]) M2 L2 ∧ WR Wz w5.heap.size (w5.heap.size + 1 + 1) (2 * stock) (2 * store) sv2 dT2) → Hid (PD Wz b2 (2 * xL) (.slice (some ⟨gs0, 0, none⟩) (N2.length + 1) cs0) vM vL) → G 3 ((((l.setIfInBounds 8 true).setIfInBounds 28 true).setIfInBounds 9 true).setIfInBounds 30 true) ((((a.put (some 99) (.slice (some ⟨o0, 0, none⟩) 1 1)).put (some 119) (.slice (some ⟨b2, 0, none⟩) 1 1)).put (some 100) (.slice (some ⟨gs0, 0, none⟩) (N2.length + 1) cs0)).put (some 121) (.pointer (some ⟨w5.heap.size + 1, 0, none⟩))) Wz) ?_ (fun J02_1 => ?_)
        · intro Wz o0 gs0 cs0 b2 Hz Q2
          simp only [Act.put, List.setIfInBounds_toArray, set99, set119, set100, set121, setb_zero, setb_succ]
          refine wpAnyH_ready (rs := [18]) (by kernel_rfl) (by simp) ?_
          refine AllReadyH.cons (o := _) rfl (fun K hK => ?_) AllReadyH.nil
          go_simp
          have H6 : Hid (TR w5 (w5.heap.size + 1) vN vM vL (Wz.alloc (.cells #[.int .i64 (2 * xM)] 3)) (.slice (some ⟨gs0, 0, none⟩) (N2.length + 1) cs0) vM vL (N2 ++ [2 * xN]) M2 L2 ∧ WR (Wz.alloc (.cells #[.int .i64 (2 * xM)] 3)) w5.heap.size (w5.heap.size + 1 + 1) (2 * stock) (2 * store) sv2 dT2) := ⟨Hz.out.1.below ((Below.refl _ _).alloc (Nat.le_refl _) _), Hz.out.2.below ((Below.refl _ _).alloc (Nat.le_refl _) _)⟩
          have P62 := Lib.hid (Q2.out.below ((Below.refl Wz.heap.size Wz).alloc (Nat.le_refl _) (.cells #[.int .i64 (2 * xM)] 3)))
          have P61 := Lib.hid (PD.new Hz.out.1 (2 * xM))
          refine hK.out _ _ ⟨⟨blk_cell H6.out.1.tb 0 rfl, blk_cell H6.out.1.tb 1 rfl, blk_cell H6.out.1.tb 2 rfl⟩, SC.out _ H6.out.1.b⟩ (fun _ => ?_)
          clear hK
          simp only [List.setIfInBounds_toArray, setb_zero, setb_succ]
          exact J012_1 _ o0 gs0 cs0 _ b2 H6 P61 P62
        simp only [Act.put, List.setIfInBounds_toArray, set99, set119, set100, set121, setb_zero, setb_succ] at J02_1
        refine with_join (fun G l a => ∀ (Wz : World) (o0 : Nat) (gs0 : Nat) (cs0 : Nat), Hid (TR w5 (w5.heap.size + 1) vN vM vL Wz (.slice (some ⟨gs0, 0, none⟩) (N2.length + 1) cs0) vM vL (N2 ++ [2 * xN]) M2 L2 ∧ WR Wz w5.heap.size (w5.heap.size + 1 + 1) (2 * stock) (2 * store) sv2 dT2) → G 4 (((l.setIfInBounds 8 true).setIfInBounds 9 true).setIfInBounds 30 true) (((a.put (some 99) (.slice (some ⟨o0, 0, none⟩) 1 1)).put (some 100) (.slice (some ⟨gs0, 0, none⟩) (N2.length + 1) cs0)).put (some 121) (.pointer (some ⟨w5.heap.size + 1, 0, none⟩))) Wz) ?_ (fun J0_1 => ?_)
        · intro Wz o0 gs0 cs0 Hz
          simp only [Act.put, List.setIfInBounds_toArray, set99, set100, set121, setb_zero, setb_succ]
          refine wpAnyH_ready (rs := [18, 28]) (by kernel_rfl) (by simp) ?_
          refine AllReadyH.cons (o := _) rfl (fun K hK => ?_) ?_
          · go_simp
            have H7 : Hid (TR w5 (w5.heap.size + 1) vN vM vL (Wz.alloc (.cells #[.int .i64 (2 * xM)] 3)) (.slice (some ⟨gs0, 0, none⟩) (N2.length + 1) cs0) vM vL (N2 ++ [2 * xN]) M2 L2 ∧ WR (Wz.alloc (.cells #[.int .i64 (2 * xM)] 3)) w5.heap.size (w5.heap.size + 1 + 1) (2 * stock) (2 * store) sv2 dT2) := ⟨Hz.out.1.below ((Below.refl _ _).alloc (Nat.le_refl _) _), Hz.out.2.below ((Below.refl _ _).alloc (Nat.le_refl _) _)⟩
            have P71 := Lib.hid (PD.new Hz.out.1 (2 * xM))
            refine hK.out _ _ ⟨⟨blk_cell H7.out.1.tb 0 rfl, blk_cell H7.out.1.tb 1 rfl, blk_cell H7.out.1.tb 2 rfl⟩, SC.out _ H7.out.1.b⟩ (fun _ => ?_)
            clear hK
            simp only [List.setIfInBounds_toArray, setb_zero, setb_succ]
            exact J01_1 _ o0 gs0 cs0 _ H7 P71
          refine AllReadyH.cons (o := _) rfl (fun K hK => ?_) AllReadyH.nil
          go_simp
          have H8 : Hid (TR w5 (w5.heap.size + 1) vN vM vL (Wz.alloc (.cells #[.int .i64 (2 * xL)] 3)) (.slice (some ⟨gs0, 0, none⟩) (N2.length + 1) cs0) vM vL (N2 ++ [2 * xN]) M2 L2 ∧ WR (Wz.alloc (.cells #[.int .i64 (2 * xL)] 3)) w5.heap.size (w5.heap.size + 1 + 1) (2 * stock) (2 * store) sv2 dT2) := ⟨Hz.out.1.below ((Below.refl _ _).alloc (Nat.le_refl _) _), Hz.out.2.below ((Below.refl _ _).alloc (Nat.le_refl _) _)⟩
          have P82 := Lib.hid (PD.new Hz.out.1 (2 * xL))
          refine hK.out _ _ ⟨⟨blk_cell H8.out.1.tb 0 rfl, blk_cell H8.out.1.tb 1 rfl, blk_cell H8.out.1.tb 2 rfl⟩, SC.out _ H8.out.1.b⟩ (fun _ => ?_)
          clear hK
          simp only [List.setIfInBounds_toArray, setb_zero, setb_succ]
          exact J02_1 _ o0 gs0 cs0 _ H8 P82
        simp only [Act.put, List.setIfInBounds_toArray, set99, set100, set121, setb_zero, setb_succ] at J0_1
        refine with_join (fun G l a => ∀ (Wz : World) (b0 : Nat) (b1 : Nat) (b2 : Nat), Hid (TR w5 (w5.heap.size + 1) vN vM vL Wz vN vM vL N2 M2 L2 ∧ WR Wz w5.heap.size (w5.heap.size + 1 + 1) (2 * stock) (2 * store) sv2 dT2) → Hid (PD Wz b0 (2 * xN) vN vM vL) → Hid (PD Wz b1 (2 * xM) vN vM vL) → Hid (PD Wz b2 (2 * xL) vN vM vL) → G 4 (((l.setIfInBounds 8 true).setIfInBounds 18 true).setIfInBounds 28 true) (((a.put (some 99) (.slice (some ⟨b0, 0, none⟩) 1 1)).put (some 109) (.slice (some ⟨b1, 0, none⟩) 1 1)).put (some 119) (.slice (some ⟨b2, 0, none⟩) 1 1)) Wz) ?_ (fun J012_0 => ?_)
        · intro Wz b0 b1 b2 Hz Q0 Q1 Q2
          simp only [Act.put, List.setIfInBounds_toArray, set99, set109, set119, setb_zero, setb_succ]
          refine wpAnyH_ready (rs := [9]) (by kernel_rfl) (by simp) ?_
          refine AllReadyH.cons (o := _) rfl (fun K hK => ?_) AllReadyH.nil
          refine step_append_lies _ rfl (.tmp 92) (.tmp 99) 27 rfl (w5.heap.size + 1 + 1) 3 i0 (.int .i64 0) 1 8 Try.underlying27 hi hz0 hz1 hz2 rfl (by decide) vN N2.length (N2.map (Value.int .i64)) rfl Hz.out.1.r.n ⟨b0, 0, none⟩ 1 1 [.int .i64 (2 * xN)] rfl rfl Q0.out.cells (by intro u hu; simp at hu; subst hu; rfl) (by decide) (by unfold maxLen; omega) (by omega) (by have := lt_of_block Hz.out.1.tb; omega) _ rfl ?_
          intro g9 c9 W9 hown hgrow hat _
          have H9 : Hid (TR w5 (w5.heap.size + 1) vN vM vL W9 (.slice (some ⟨g9, 0, none⟩) (N2.length + 1) c9) vM vL (N2 ++ [2 * xN]) M2 L2 ∧ WR W9 w5.heap.size (w5.heap.size + 1 + 1) (2 * stock) (2 * store) sv2 dT2) := ⟨(Hz.out.1).push hown hgrow hat, Hz.out.2.keep (Hz.out.1) hgrow⟩
          have P91 := Lib.hid (PD.push (n := N2.length + 1) (c := c9) (Q1.out) hgrow hat)
          have P92 := Lib.hid (PD.push (n := N2.length + 1) (c := c9) (Q2.out) hgrow hat)
          clear hown hgrow hat
          refine hK.out _ _ ⟨⟨blk_cell H9.out.1.tb 0 rfl, blk_cell H9.out.1.tb 1 rfl, blk_cell H9.out.1.tb 2 rfl⟩, SC.out _ H9.out.1.b⟩ (fun _ => ?_)
          clear hK
          simp only [Act.put, List.getElem_toArray, List.getElem_cons_succ, List.getElem_cons_zero, List.setIfInBounds_toArray, set100, setb_zero, setb_succ]
          refine wpAnyH_take (i := 30) (v := .pointer (some ⟨w5.heap.size + 1, 0, none⟩)) rfl (by kernel_rfl) (by kernel_rfl) (by kernel_rfl) (fun _ _ _ h => hp0 _ _ _ _ _ h) (Or.inl ⟨by rfl, by (intro W hSw; clear hSw; go_simp)⟩) ⟨⟨blk_cell H9.out.1.tb 0 rfl, blk_cell H9.out.1.tb 1 rfl, blk_cell H9.out.1.tb 2 rfl⟩, SC.out _ H9.out.1.b⟩ ?_
          simp only [Act.put, List.getElem_toArray, List.getElem_cons_succ, List.getElem_cons_zero, List.setIfInBounds_toArray, set121, setb_zero, setb_succ]
          exact J012_1 _ b0 g9 c9 b1 b2 H9 P91 P92
        simp only [Act.put, List.setIfInBounds_toArray, set99, set109, set119, setb_zero, setb_succ] at J012_0
        refine with_join (fun G l a => ∀ (Wz : World) (b0 : Nat) (b1 : Nat), Hid (TR w5 (w5.heap.size + 1) vN vM vL Wz vN vM vL N2 M2 L2 ∧ WR Wz w5.heap.size (w5.heap.size + 1 + 1) (2 * stock) (2 * store) sv2 dT2) → Hid (PD Wz b0 (2 * xN) vN vM vL) → Hid (PD Wz b1 (2 * xM) vN vM vL) → G 5 ((l.setIfInBounds 8 true).setIfInBounds 18 true) ((a.put (some 99) (.slice (some ⟨b0, 0, none⟩) 1 1)).put (some 109) (.slice (some ⟨b1, 0, none⟩) 1 1)) Wz) ?_ (fun J01_0 => ?_)
        · intro Wz b0 b1 Hz Q0 Q1
          simp only [Act.put, List.setIfInBounds_toArray, set99, set109, setb_zero, setb_succ]
          refine wpAnyH_ready (rs := [9, 28]) (by kernel_rfl) (by simp) ?_
          refine AllReadyH.cons (o := _) rfl (fun K hK => ?_) ?_
          · refine step_append_lies _ rfl (.tmp 92) (.tmp 99) 27 rfl (w5.heap.size + 1 + 1) 3 i0 (.int .i64 0) 1 8 Try.underlying27 hi hz0 hz1 hz2 rfl (by decide) vN N2.length (N2.map (Value.int .i64)) rfl Hz.out.1.r.n ⟨b0, 0, none⟩ 1 1 [.int .i64 (2 * xN)] rfl rfl Q0.out.cells (by intro u hu; simp at hu; subst hu; rfl) (by decide) (by unfold maxLen; omega) (by omega) (by have := lt_of_block Hz.out.1.tb; omega) _ rfl ?_
            intro g10 c10 W10 hown hgrow hat _
            have H10 : Hid (TR w5 (w5.heap.size + 1) vN vM vL W10 (.slice (some ⟨g10, 0, none⟩) (N2.length + 1) c10) vM vL (N2 ++ [2 * xN]) M2 L2 ∧ WR W10 w5.heap.size (w5.heap.size + 1 + 1) (2 * stock) (2 * store) sv2 dT2) := ⟨(Hz.out.1).push hown hgrow hat, Hz.out.2.keep (Hz.out.1) hgrow⟩
            have P101 := Lib.hid (PD.push (n := N2.length + 1) (c := c10) (Q1.out) hgrow hat)
            clear hown hgrow hat
            refine hK.out _ _ ⟨⟨blk_cell H10.out.1.tb 0 rfl, blk_cell H10.out.1.tb 1 rfl, blk_cell H10.out.1.tb 2 rfl⟩, SC.out _ H10.out.1.b⟩ (fun _ => ?_)
            clear hK
            simp only [Act.put, List.getElem_toArray, List.getElem_cons_succ, List.getElem_cons_zero, List.setIfInBounds_toArray, set100, setb_zero, setb_succ]
            refine wpAnyH_take (i := 30) (v := .pointer (some ⟨w5.heap.size + 1, 0, none⟩)) rfl (by kernel_rfl) (by kernel_rfl) (by kernel_rfl) (fun _ _ _ h => hp0 _ _ _ _ _ h) (Or.inl ⟨by rfl, by (intro W hSw; clear hSw; go_simp)⟩) ⟨⟨blk_cell H10.out.1.tb 0 rfl, blk_cell H10.out.1.tb 1 rfl, blk_cell H10.out.1.tb 2 rfl⟩, SC.out _ H10.out.1.b⟩ ?_
            simp only [Act.put, List.getElem_toArray, List.getElem_cons_succ, List.getElem_cons_zero, List.setIfInBounds_toArray, set121, setb_zero, setb_succ]
            exact J01_1 _ b0 g10 c10 b1 H10 P101
          refine AllReadyH.cons (o := _) rfl (fun K hK => ?_) AllReadyH.nil
          go_simp
          have H11 : Hid (TR w5 (w5.heap.size + 1) vN vM vL (Wz.alloc (.cells #[.int .i64 (2 * xL)] 3)) vN vM vL N2 M2 L2 ∧ WR (Wz.alloc (.cells #[.int .i64 (2 * xL)] 3)) w5.heap.size (w5.heap.size + 1 + 1) (2 * stock) (2 * store) sv2 dT2) := ⟨Hz.out.1.below ((Below.refl _ _).alloc (Nat.le_refl _) _), Hz.out.2.below ((Below.refl _ _).alloc (Nat.le_refl _) _)⟩
          have P110 := Lib.hid (Q0.out.below ((Below.refl Wz.heap.size Wz).alloc (Nat.le_refl _) (.cells #[.int .i64 (2 * xL)] 3)))
          have P111 := Lib.hid (Q1.out.below ((Below.refl Wz.heap.size Wz).alloc (Nat.le_refl _) (.cells #[.int .i64 (2 * xL)] 3)))
          have P112 := Lib.hid (PD.new Hz.out.1 (2 * xL))
          refine hK.out _ _ ⟨⟨blk_cell H11.out.1.tb 0 rfl, blk_cell H11.out.1.tb 1 rfl, blk_cell H11.out.1.tb 2 rfl⟩, SC.out _ H11.out.1.b⟩ (fun _ => ?_)
          clear hK
          simp only [List.setIfInBounds_toArray, setb_zero, setb_succ]
          exact J012_0 _  b0 b1 _ H11 P110 P111 P112
        simp only [Act.put, List.setIfInBounds_toArray, set99, set109, setb_zero, setb_succ] at J01_0
        refine with_join (fun G l a => ∀ (Wz : World) (b0 : Nat) (b2 : Nat), Hid (TR w5 (w5.heap.size + 1) vN vM vL Wz vN vM vL N2 M2 L2 ∧ WR Wz w5.heap.size (w5.heap.size + 1 + 1) (2 * stock) (2 * store) sv2 dT2) → Hid (PD Wz b0 (2 * xN) vN vM vL) → Hid (PD Wz b2 (2 * xL) vN vM vL) → G 5 ((l.setIfInBounds 8 true).setIfInBounds 28 true) ((a.put (some 99) (.slice (some ⟨b0, 0, none⟩) 1 1)).put (some 119) (.slice (some ⟨b2, 0, none⟩) 1 1)) Wz) ?_ (fun J02_0 => ?_)
        · intro Wz b0 b2 Hz Q0 Q2
          simp only [Act.put, List.setIfInBounds_toArray, set99, set119, setb_zero, setb_succ]
          refine wpAnyH_ready (rs := [9, 18]) (by kernel_rfl) (by simp) ?_
          refine AllReadyH.cons (o := _) rfl (fun K hK => ?_) ?_
          · refine step_append_lies _ rfl (.tmp 92) (.tmp 99) 27 rfl (w5.heap.size + 1 + 1) 3 i0 (.int .i64 0) 1 8 Try.underlying27 hi hz0 hz1 hz2 rfl (by decide) vN N2.length (N2.map (Value.int .i64)) rfl Hz.out.1.r.n ⟨b0, 0, none⟩ 1 1 [.int .i64 (2 * xN)] rfl rfl Q0.out.cells (by intro u hu; simp at hu; subst hu; rfl) (by decide) (by unfold maxLen; omega) (by omega) (by have := lt_of_block Hz.out.1.tb; omega) _ rfl ?_
            intro g12 c12 W12 hown hgrow hat _
            have H12 : Hid (TR w5 (w5.heap.size + 1) vN vM vL W12 (.slice (some ⟨g12, 0, none⟩) (N2.length + 1) c12) vM vL (N2 ++ [2 * xN]) M2 L2 ∧ WR W12 w5.heap.size (w5.heap.size + 1 + 1) (2 * stock) (2 * store) sv2 dT2) := ⟨(Hz.out.1).push hown hgrow hat, Hz.out.2.keep (Hz.out.1) hgrow⟩
            have P122 := Lib.hid (PD.push (n := N2.length + 1) (c := c12) (Q2.out) hgrow hat)
            clear hown hgrow hat
            refine hK.out _ _ ⟨⟨blk_cell H12.out.1.tb 0 rfl, blk_cell H12.out.1.tb 1 rfl, blk_cell H12.out.1.tb 2 rfl⟩, SC.out _ H12.out.1.b⟩ (fun _ => ?_)
            clear hK
            simp only [Act.put, List.getElem_toArray, List.getElem_cons_succ, List.getElem_cons_zero, List.setIfInBounds_toArray, set100, setb_zero, setb_succ]
            refine wpAnyH_take (i := 30) (v := .pointer (some ⟨w5.heap.size + 1, 0, none⟩)) rfl (by kernel_rfl) (by kernel_rfl) (by kernel_rfl) (fun _ _ _ h => hp0 _ _ _ _ _ h) (Or.inl ⟨by rfl, by (intro W hSw; clear hSw; go_simp)⟩) ⟨⟨blk_cell H12.out.1.tb 0 rfl, blk_cell H12.out.1.tb 1 rfl, blk_cell H12.out.1.tb 2 rfl⟩, SC.out _ H12.out.1.b⟩ ?_
            simp only [Act.put, List.getElem_toArray, List.getElem_cons_succ, List.getElem_cons_zero, List.setIfInBounds_toArray, set121, setb_zero, setb_succ]
            exact J02_1 _ b0 g12 c12 b2 H12 P122
          refine AllReadyH.cons (o := _) rfl (fun K hK => ?_) AllReadyH.nil
          go_simp
          have H13 : Hid (TR w5 (w5.heap.size + 1) vN vM vL (Wz.alloc (.cells #[.int .i64 (2 * xM)] 3)) vN vM vL N2 M2 L2 ∧ WR (Wz.alloc (.cells #[.int .i64 (2 * xM)] 3)) w5.heap.size (w5.heap.size + 1 + 1) (2 * stock) (2 * store) sv2 dT2) := ⟨Hz.out.1.below ((Below.refl _ _).alloc (Nat.le_refl _) _), Hz.out.2.below ((Below.refl _ _).alloc (Nat.le_refl _) _)⟩
          have P130 := Lib.hid (Q0.out.below ((Below.refl Wz.heap.size Wz).alloc (Nat.le_refl _) (.cells #[.int .i64 (2 * xM)] 3)))
          have P132 := Lib.hid (Q2.out.below ((Below.refl Wz.heap.size Wz).alloc (Nat.le_refl _) (.cells #[.int .i64 (2 * xM)] 3)))
          have P131 := Lib.hid (PD.new Hz.out.1 (2 * xM))
          refine hK.out _ _ ⟨⟨blk_cell H13.out.1.tb 0 rfl, blk_cell H13.out.1.tb 1 rfl, blk_cell H13.out.1.tb 2 rfl⟩, SC.out _ H13.out.1.b⟩ (fun _ => ?_)
          clear hK
          simp only [List.setIfInBounds_toArray, setb_zero, setb_succ]
          exact J012_0 _  b0 _ b2 H13 P130 P131 P132
        simp only [Act.put, List.setIfInBounds_toArray, set99, set119, setb_zero, setb_succ] at J02_0
        refine with_join (fun G l a => ∀ (Wz : World) (b1 : Nat) (b2 : Nat), Hid (TR w5 (w5.heap.size + 1) vN vM vL Wz vN vM vL N2 M2 L2 ∧ WR Wz w5.heap.size (w5.heap.size + 1 + 1) (2 * stock) (2 * store) sv2 dT2) → Hid (PD Wz b1 (2 * xM) vN vM vL) → Hid (PD Wz b2 (2 * xL) vN vM vL) → G 5 ((l.setIfInBounds 18 true).setIfInBounds 28 true) ((a.put (some 109) (.slice (some ⟨b1, 0, none⟩) 1 1)).put (some 119) (.slice (some ⟨b2, 0, none⟩) 1 1)) Wz) ?_ (fun J12_0 => ?_)
        · intro Wz b1 b2 Hz Q1 Q2
          simp only [Act.put, List.setIfInBounds_toArray, set109, set119, setb_zero, setb_succ]
          refine wpAnyH_ready (rs := [8]) (by kernel_rfl) (by simp) ?_
          refine AllReadyH.cons (o := _) rfl (fun K hK => ?_) AllReadyH.nil
          go_simp
          have H14 : Hid (TR w5 (w5.heap.size + 1) vN vM vL (Wz.alloc (.cells #[.int .i64 (2 * xN)] 3)) vN vM vL N2 M2 L2 ∧ WR (Wz.alloc (.cells #[.int .i64 (2 * xN)] 3)) w5.heap.size (w5.heap.size + 1 + 1) (2 * stock) (2 * store) sv2 dT2) := ⟨Hz.out.1.below ((Below.refl _ _).alloc (Nat.le_refl _) _), Hz.out.2.below ((Below.refl _ _).alloc (Nat.le_refl _) _)⟩
          have P141 := Lib.hid (Q1.out.below ((Below.refl Wz.heap.size Wz).alloc (Nat.le_refl _) (.cells #[.int .i64 (2 * xN)] 3)))
          have P142 := Lib.hid (Q2.out.below ((Below.refl Wz.heap.size Wz).alloc (Nat.le_refl _) (.cells #[.int .i64 (2 * xN)] 3)))
          have P140 := Lib.hid (PD.new Hz.out.1 (2 * xN))
          refine hK.out _ _ ⟨⟨blk_cell H14.out.1.tb 0 rfl, blk_cell H14.out.1.tb 1 rfl, blk_cell H14.out.1.tb 2 rfl⟩, SC.out _ H14.out.1.b⟩ (fun _ => ?_)
          clear hK
          simp only [List.setIfInBounds_toArray, setb_zero, setb_succ]
          exact J012_0 _  _ b1 b2 H14 P140 P141 P142
        simp only [Act.put, List.setIfInBounds_toArray, set109, set119, setb_zero, setb_succ] at J12_0
        refine with_join (fun G l a => ∀ (Wz : World) (b0 : Nat), Hid (TR w5 (w5.heap.size + 1) vN vM vL Wz vN vM vL N2 M2 L2 ∧ WR Wz w5.heap.size (w5.heap.size + 1 + 1) (2 * stock) (2 * store) sv2 dT2) → Hid (PD Wz b0 (2 * xN) vN vM vL) → G 6 (l.setIfInBounds 8 true) (a.put (some 99) (.slice (some ⟨b0, 0, none⟩) 1 1)) Wz) ?_ (fun J0_0 => ?_)
        · intro Wz b0 Hz Q0
          simp only [Act.put, List.setIfInBounds_toArray, set99, setb_zero, setb_succ]
          refine wpAnyH_ready (rs := [9, 18, 28]) (by kernel_rfl) (by simp) ?_
          refine AllReadyH.cons (o := _) rfl (fun K hK => ?_) ?_
          · refine step_append_lies _ rfl (.tmp 92) (.tmp 99) 27 rfl (w5.heap.size + 1 + 1) 3 i0 (.int .i64 0) 1 8 Try.underlying27 hi hz0 hz1 hz2 rfl (by decide) vN N2.length (N2.map (Value.int .i64)) rfl Hz.out.1.r.n ⟨b0, 0, none⟩ 1 1 [.int .i64 (2 * xN)] rfl rfl Q0.out.cells (by intro u hu; simp at hu; subst hu; rfl) (by decide) (by unfold maxLen; omega) (by omega) (by have := lt_of_block Hz.out.1.tb; omega) _ rfl ?_
            intro g15 c15 W15 hown hgrow hat _
            have H15 : Hid (TR w5 (w5.heap.size + 1) vN vM vL W15 (.slice (some ⟨g15, 0, none⟩) (N2.length + 1) c15) vM vL (N2 ++ [2 * xN]) M2 L2 ∧ WR W15 w5.heap.size (w5.heap.size + 1 + 1) (2 * stock) (2 * store) sv2 dT2) := ⟨(Hz.out.1).push hown hgrow hat, Hz.out.2.keep (Hz.out.1) hgrow⟩
            clear hown hgrow hat
            refine hK.out _ _ ⟨⟨blk_cell H15.out.1.tb 0 rfl, blk_cell H15.out.1.tb 1 rfl, blk_cell H15.out.1.tb 2 rfl⟩, SC.out _ H15.out.1.b⟩ (fun _ => ?_)
            clear hK
            simp only [Act.put, List.getElem_toArray, List.getElem_cons_succ, List.getElem_cons_zero, List.setIfInBounds_toArray, set100, setb_zero, setb_succ]
            refine wpAnyH_take (i := 30) (v := .pointer (some ⟨w5.heap.size + 1, 0, none⟩)) rfl (by kernel_rfl) (by kernel_rfl) (by kernel_rfl) (fun _ _ _ h => hp0 _ _ _ _ _ h) (Or.inl ⟨by rfl, by (intro W hSw; clear hSw; go_simp)⟩) ⟨⟨blk_cell H15.out.1.tb 0 rfl, blk_cell H15.out.1.tb 1 rfl, blk_cell H15.out.1.tb 2 rfl⟩, SC.out _ H15.out.1.b⟩ ?_
            simp only [Act.put, List.getElem_toArray, List.getElem_cons_succ, List.getElem_cons_zero, List.setIfInBounds_toArray, set121, setb_zero, setb_succ]
            exact J0_1 _ b0 g15 c15 H15 
          refine AllReadyH.cons (o := _) rfl (fun K hK => ?_) ?_
          · go_simp
            have H16 : Hid (TR w5 (w5.heap.size + 1) vN vM vL (Wz.alloc (.cells #[.int .i64 (2 * xM)] 3)) vN vM vL N2 M2 L2 ∧ WR (Wz.alloc (.cells #[.int .i64 (2 * xM)] 3)) w5.heap.size (w5.heap.size + 1 + 1) (2 * stock) (2 * store) sv2 dT2) := ⟨Hz.out.1.below ((Below.refl _ _).alloc (Nat.le_refl _) _), Hz.out.2.below ((Below.refl _ _).alloc (Nat.le_refl _) _)⟩
            have P160 := Lib.hid (Q0.out.below ((Below.refl Wz.heap.size Wz).alloc (Nat.le_refl _) (.cells #[.int .i64 (2 * xM)] 3)))
            have P161 := Lib.hid (PD.new Hz.out.1 (2 * xM))
            refine hK.out _ _ ⟨⟨blk_cell H16.out.1.tb 0 rfl, blk_cell H16.out.1.tb 1 rfl, blk_cell H16.out.1.tb 2 rfl⟩, SC.out _ H16.out.1.b⟩ (fun _ => ?_)
            clear hK
            simp only [List.setIfInBounds_toArray, setb_zero, setb_succ]
            exact J01_0 _  b0 _ H16 P160 P161
          refine AllReadyH.cons (o := _) rfl (fun K hK => ?_) AllReadyH.nil
          go_simp
          have H17 : Hid (TR w5 (w5.heap.size + 1) vN vM vL (Wz.alloc (.cells #[.int .i64 (2 * xL)] 3)) vN vM vL N2 M2 L2 ∧ WR (Wz.alloc (.cells #[.int .i64 (2 * xL)] 3)) w5.heap.size (w5.heap.size + 1 + 1) (2 * stock) (2 * store) sv2 dT2) := ⟨Hz.out.1.below ((Below.refl _ _).alloc (Nat.le_refl _) _), Hz.out.2.below ((Below.refl _ _).alloc (Nat.le_refl _) _)⟩
          have P170 := Lib.hid (Q0.out.below ((Below.refl Wz.heap.size Wz).alloc (Nat.le_refl _) (.cells #[.int .i64 (2 * xL)] 3)))
          have P172 := Lib.hid (PD.new Hz.out.1 (2 * xL))
          refine hK.out _ _ ⟨⟨blk_cell H17.out.1.tb 0 rfl, blk_cell H17.out.1.tb 1 rfl, blk_cell H17.out.1.tb 2 rfl⟩, SC.out _ H17.out.1.b⟩ (fun _ => ?_)
          clear hK
          simp only [List.setIfInBounds_toArray, setb_zero, setb_succ]
          exact J02_0 _  b0 _ H17 P170 P172
        simp only [Act.put, List.setIfInBounds_toArray, set99, setb_zero, setb_succ] at J0_0
        refine with_join (fun G l a => ∀ (Wz : World) (b1 : Nat), Hid (TR w5 (w5.heap.size + 1) vN vM vL Wz vN vM vL N2 M2 L2 ∧ WR Wz w5.heap.size (w5.heap.size + 1 + 1) (2 * stock) (2 * store) sv2 dT2) → Hid (PD Wz b1 (2 * xM) vN vM vL) → G 6 (l.setIfInBounds 18 true) (a.put (some 109) (.slice (some ⟨b1, 0, none⟩) 1 1)) Wz) ?_ (fun J1_0 => ?_)
        · intro Wz b1 Hz Q1
          simp only [Act.put, List.setIfInBounds_toArray, set109, setb_zero, setb_succ]
          refine wpAnyH_ready (rs := [8, 28]) (by kernel_rfl) (by simp) ?_
          refine AllReadyH.cons (o := _) rfl (fun K hK => ?_) ?_
          · go_simp
            have H18 : Hid (TR w5 (w5.heap.size + 1) vN vM vL (Wz.alloc (.cells #[.int .i64 (2 * xN)] 3)) vN vM vL N2 M2 L2 ∧ WR (Wz.alloc (.cells #[.int .i64 (2 * xN)] 3)) w5.heap.size (w5.heap.size + 1 + 1) (2 * stock) (2 * store) sv2 dT2) := ⟨Hz.out.1.below ((Below.refl _ _).alloc (Nat.le_refl _) _), Hz.out.2.below ((Below.refl _ _).alloc (Nat.le_refl _) _)⟩
            have P181 := Lib.hid (Q1.out.below ((Below.refl Wz.heap.size Wz).alloc (Nat.le_refl _) (.cells #[.int .i64 (2 * xN)] 3)))
            have P180 := Lib.hid (PD.new Hz.out.1 (2 * xN))
            refine hK.out _ _ ⟨⟨blk_cell H18.out.1.tb 0 rfl, blk_cell H18.out.1.tb 1 rfl, blk_cell H18.out.1.tb 2 rfl⟩, SC.out _ H18.out.1.b⟩ (fun _ => ?_)
            clear hK
            simp only [List.setIfInBounds_toArray, setb_zero, setb_succ]
            exact J01_0 _  _ b1 H18 P180 P181
          refine AllReadyH.cons (o := _) rfl (fun K hK => ?_) AllReadyH.nil
          go_simp
          have H19 : Hid (TR w5 (w5.heap.size + 1) vN vM vL (Wz.alloc (.cells #[.int .i64 (2 * xL)] 3)) vN vM vL N2 M2 L2 ∧ WR (Wz.alloc (.cells #[.int .i64 (2 * xL)] 3)) w5.heap.size (w5.heap.size + 1 + 1) (2 * stock) (2 * store) sv2 dT2) := ⟨Hz.out.1.below ((Below.refl _ _).alloc (Nat.le_refl _) _), Hz.out.2.below ((Below.refl _ _).alloc (Nat.le_refl _) _)⟩
          have P191 := Lib.hid (Q1.out.below ((Below.refl Wz.heap.size Wz).alloc (Nat.le_refl _) (.cells #[.int .i64 (2 * xL)] 3)))
          have P192 := Lib.hid (PD.new Hz.out.1 (2 * xL))
          refine hK.out _ _ ⟨⟨blk_cell H19.out.1.tb 0 rfl, blk_cell H19.out.1.tb 1 rfl, blk_cell H19.out.1.tb 2 rfl⟩, SC.out _ H19.out.1.b⟩ (fun _ => ?_)
          clear hK
          simp only [List.setIfInBounds_toArray, setb_zero, setb_succ]
          exact J12_0 _  b1 _ H19 P191 P192
        simp only [Act.put, List.setIfInBounds_toArray, set109, setb_zero, setb_succ] at J1_0
        refine with_join (fun G l a => ∀ (Wz : World) (b2 : Nat), Hid (TR w5 (w5.heap.size + 1) vN vM vL Wz vN vM vL N2 M2 L2 ∧ WR Wz w5.heap.size (w5.heap.size + 1 + 1) (2 * stock) (2 * store) sv2 dT2) → Hid (PD Wz b2 (2 * xL) vN vM vL) → G 6 (l.setIfInBounds 28 true) (a.put (some 119) (.slice (some ⟨b2, 0, none⟩) 1 1)) Wz) ?_ (fun J2_0 => ?_)
        · intro Wz b2 Hz Q2
          simp only [Act.put, List.setIfInBounds_toArray, set119, setb_zero, setb_succ]
          refine wpAnyH_ready (rs := [8, 18]) (by kernel_rfl) (by simp) ?_
          refine AllReadyH.cons (o := _) rfl (fun K hK => ?_) ?_
          · go_simp
            have H20 : Hid (TR w5 (w5.heap.size + 1) vN vM vL (Wz.alloc (.cells #[.int .i64 (2 * xN)] 3)) vN vM vL N2 M2 L2 ∧ WR (Wz.alloc (.cells #[.int .i64 (2 * xN)] 3)) w5.heap.size (w5.heap.size + 1 + 1) (2 * stock) (2 * store) sv2 dT2) := ⟨Hz.out.1.below ((Below.refl _ _).alloc (Nat.le_refl _) _), Hz.out.2.below ((Below.refl _ _).alloc (Nat.le_refl _) _)⟩
            have P202 := Lib.hid (Q2.out.below ((Below.refl Wz.heap.size Wz).alloc (Nat.le_refl _) (.cells #[.int .i64 (2 * xN)] 3)))
            have P200 := Lib.hid (PD.new Hz.out.1 (2 * xN))
            refine hK.out _ _ ⟨⟨blk_cell H20.out.1.tb 0 rfl, blk_cell H20.out.1.tb 1 rfl, blk_cell H20.out.1.tb 2 rfl⟩, SC.out _ H20.out.1.b⟩ (fun _ => ?_)
            clear hK
            simp only [List.setIfInBounds_toArray, setb_zero, setb_succ]
            exact J02_0 _  _ b2 H20 P200 P202
          refine AllReadyH.cons (o := _) rfl (fun K hK => ?_) AllReadyH.nil
          go_simp
          have H21 : Hid (TR w5 (w5.heap.size + 1) vN vM vL (Wz.alloc (.cells #[.int .i64 (2 * xM)] 3)) vN vM vL N2 M2 L2 ∧ WR (Wz.alloc (.cells #[.int .i64 (2 * xM)] 3)) w5.heap.size (w5.heap.size + 1 + 1) (2 * stock) (2 * store) sv2 dT2) := ⟨Hz.out.1.below ((Below.refl _ _).alloc (Nat.le_refl _) _), Hz.out.2.below ((Below.refl _ _).alloc (Nat.le_refl _) _)⟩
          have P212 := Lib.hid (Q2.out.below ((Below.refl Wz.heap.size Wz).alloc (Nat.le_refl _) (.cells #[.int .i64 (2 * xM)] 3)))
          have P211 := Lib.hid (PD.new Hz.out.1 (2 * xM))
          refine hK.out _ _ ⟨⟨blk_cell H21.out.1.tb 0 rfl, blk_cell H21.out.1.tb 1 rfl, blk_cell H21.out.1.tb 2 rfl⟩, SC.out _ H21.out.1.b⟩ (fun _ => ?_)
          clear hK
          simp only [List.setIfInBounds_toArray, setb_zero, setb_succ]
          exact J12_0 _  _ b2 H21 P211 P212
        simp only [Act.put, List.setIfInBounds_toArray, set119, setb_zero, setb_succ] at J2_0
        refine wpAnyH_ready (rs := [8, 18, 28]) (by kernel_rfl) (by simp) ?_
        refine AllReadyH.cons (o := _) rfl (fun K hK => ?_) ?_
        · go_simp
          have H22 : Hid (TR w5 (w5.heap.size + 1) vN vM vL (W0.alloc (.cells #[.int .i64 (2 * xN)] 3)) vN vM vL N2 M2 L2 ∧ WR (W0.alloc (.cells #[.int .i64 (2 * xN)] 3)) w5.heap.size (w5.heap.size + 1 + 1) (2 * stock) (2 * store) sv2 dT2) := ⟨H0.out.1.below ((Below.refl _ _).alloc (Nat.le_refl _) _), H0.out.2.below ((Below.refl _ _).alloc (Nat.le_refl _) _)⟩
          have P220 := Lib.hid (PD.new H0.out.1 (2 * xN))
          refine hK.out _ _ ⟨⟨blk_cell H22.out.1.tb 0 rfl, blk_cell H22.out.1.tb 1 rfl, blk_cell H22.out.1.tb 2 rfl⟩, SC.out _ H22.out.1.b⟩ (fun _ => ?_)
          clear hK
          simp only [List.setIfInBounds_toArray, setb_zero, setb_succ]
          exact J0_0 _  _ H22 P220
        refine AllReadyH.cons (o := _) rfl (fun K hK => ?_) ?_
        · go_simp
          have H23 : Hid (TR w5 (w5.heap.size + 1) vN vM vL (W0.alloc (.cells #[.int .i64 (2 * xM)] 3)) vN vM vL N2 M2 L2 ∧ WR (W0.alloc (.cells #[.int .i64 (2 * xM)] 3)) w5.heap.size (w5.heap.size + 1 + 1) (2 * stock) (2 * store) sv2 dT2) := ⟨H0.out.1.below ((Below.refl _ _).alloc (Nat.le_refl _) _), H0.out.2.below ((Below.refl _ _).alloc (Nat.le_refl _) _)⟩
          have P231 := Lib.hid (PD.new H0.out.1 (2 * xM))
          refine hK.out _ _ ⟨⟨blk_cell H23.out.1.tb 0 rfl, blk_cell H23.out.1.tb 1 rfl, blk_cell H23.out.1.tb 2 rfl⟩, SC.out _ H23.out.1.b⟩ (fun _ => ?_)
          clear hK
          simp only [List.setIfInBounds_toArray, setb_zero, setb_succ]
          exact J1_0 _  _ H23 P231
        refine AllReadyH.cons (o := _) rfl (fun K hK => ?_) AllReadyH.nil
        go_simp
        have H24 : Hid (TR w5 (w5.heap.size + 1) vN vM vL (W0.alloc (.cells #[.int .i64 (2 * xL)] 3)) vN vM vL N2 M2 L2 ∧ WR (W0.alloc (.cells #[.int .i64 (2 * xL)] 3)) w5.heap.size (w5.heap.size + 1 + 1) (2 * stock) (2 * store) sv2 dT2) := ⟨H0.out.1.below ((Below.refl _ _).alloc (Nat.le_refl _) _), H0.out.2.below ((Below.refl _ _).alloc (Nat.le_refl _) _)⟩
        have P242 := Lib.hid (PD.new H0.out.1 (2 * xL))
        refine hK.out _ _ ⟨⟨blk_cell H24.out.1.tb 0 rfl, blk_cell H24.out.1.tb 1 rfl, blk_cell H24.out.1.tb 2 rfl⟩, SC.out _ H24.out.1.b⟩ (fun _ => ?_)
        clear hK
        simp only [List.setIfInBounds_toArray, setb_zero, setb_succ]
        exact J2_0 _  _ H24 P242
      · as_aux_lemma =>
        have hjl : j = ds.length := by omega
        subst hjl
        clear hlt hj'
        obtain ⟨e0, e1, e2, e3⟩ := hE.out
        rw [List.take_length] at e0
        rw [List.take_of_length_le (by have := HSK.out.1.1; omega)] at e1
        rw [List.take_of_length_le (by have := HSK.out.1.2.1; omega)] at e2
        rw [List.take_of_length_le (by have := HSK.out.1.2.2; omega)] at e3
        subst e0 e1 e2 e3
        obtain ⟨at', ct, eT, iT, _⟩ := days_of_owns hR.out.wr.row
        obtain ⟨an2, cn2, eN, iN, _⟩ := ints_of_owns hR.out.tr.r.n
        obtain ⟨am2, cm2, eM, iM, _⟩ := ints_of_owns hR.out.tr.r.m
        obtain ⟨al2, cl2, eL, iL, _⟩ := ints_of_owns hR.out.tr.r.l
        rw [List.length_map] at eT eN eM eL
        rw [HSK.out.1.1] at eN
        rw [HSK.out.1.2.1] at eM
        rw [HSK.out.1.2.2] at eL
        subst eT eN eM eL
        have HI := Lib.hid (And.intro iT (And.intro iN (And.intro iM iL)))
        have HTr := Lib.hid (And.intro (HT.out.1.below hR.out.tr.b) (And.intro (HT.out.2.1.below hR.out.tr.b) (HT.out.2.2.below hR.out.tr.b)))
        clear iT iN iM iL
        have u0 := blk_cell hR.out.wr.wb 0 rfl
        have u1 := blk_cell hR.out.wr.wb 1 rfl
        have u2 := blk_cell hR.out.wr.wb 2 rfl
        have v0 := blk_cell hR.out.tr.tb 0 rfl
        have v1 := blk_cell hR.out.tr.tb 1 rfl
        have v2 := blk_cell hR.out.tr.tb 2 rfl
        go_wp2_with (fail)
        clear u0 u1 u2 v0 v1 v2
        have HC := Stocks_any (2 * stock) (2 * store) at' (ds.map Dy.dbl) ct an2 (N.map (2 * ·)) cn2 am2 (M.map (2 * ·)) cm2 al2 (L.map (2 * ·)) cl2 wr HI.out.1 HI.out.2.1 HI.out.2.2.1 HI.out.2.2.2 (win_dbl HF.out.2.1 HF.out.1 HF.out.2.2.1 HF.out.2.2.2) (sky_dbl HSK.out)
        have hS2 : (twiceP (playL stock store N M L ds.length)).stocks = S.map (2 * ·) := by rw [← HSM.out]; rfl
        rw [List.length_map, playL_twice, hS2, List.length_map] at HC
        clear hS2
        refine HC.mono ?_
        rintro e w7 ⟨db, dc, rfl, ⟨iD, _⟩, hb⟩
        have HV := Lib.hid (And.intro (HTr.out.1.below hb) (And.intro (HTr.out.2.1.below hb) (And.intro (HTr.out.2.2.below hb) iD)))
        have hdt := days_told (stock := stock) (store := store) (N := N) (M := M) (L := L) HF.out.2.1 (getD_pos (HSK.out.bd (win_ok HW.out).2.2).2.1) (getD_pos (HSK.out.bd (win_ok HW.out).2.2).2.2) (getD_pos (HSK.out.bd (win_ok HW.out).2.2).1) ds.length
        rw [HSM.out] at hdt
        have HDT : Hid (S.length ≤ ds.length ∧ ∀ i, i < S.length → 0 ≤ S[i]?.getD 0 ∧ S[i]?.getD 0 ≤ store) := ⟨hdt.2.1, fun i hi => (hdt.2.2.2.2.2 i hi).2.2.2.2⟩
        clear hb HC iD hdt HI hR HTr hE
        go_wp2_with (fail)
        go_loopw [142] (fun i wx => ∃ q : Nat, i = .int .i64 q ∧ q ≤ S.length ∧ Hid (Below w7.heap.size w7 wx)) (fun i _ => S.length - (intOf i).toNat)
        case atStart => exact ⟨0, rfl, Nat.zero_le _, Below.refl _ _⟩
        case round =>
          obtain ⟨q, rfl, hq, hbw⟩ := hrel
          by_cases hlt : q < S.length
          · as_aux_lemma =>
            obtain ⟨b1, o1, rfl, hb1, hc1⟩ := HV.out.2.2.1 (by omega)
            obtain ⟨b2, o2, rfl, hb2, hc2⟩ := HV.out.2.2.2 (by simp; omega)
            have d1 := (hbw.out.cell (p := ⟨b1, o1 + q, none⟩) hb1).trans (hc1 q hlt)
            have d2 := (hbw.out.cell (p := ⟨b2, o2 + q, none⟩) hb2).trans (hc2 q (by simpa using hlt))
            rw [getD_twice] at d2
            have hx := HDT.out.2 q hlt
            have hdl := HDT.out.1
            have hdl2 := HF.out.2.2.1
            have hst := HF.out.1
            clear hc1 hc2
            generalize S[q]?.getD 0 = x at *
            have p1 : IntKind.i64.wrap (2 * x) = 2 * x := IntWalk.i64_in _ (by omega)
            have g1 : ((2 * x) != (2 * x)) = false := by simp
            clear hx hst
            go_wp2_with (fail)
            go_roundw
            case rel => exact ⟨q + 1, by go_num, by omega, hbw.out⟩
            case measure => simp [intOf]; omega
          · have hqe : q = S.length := by omega
            subst hqe
            clear hlt hq
            obtain ⟨wu, rfl⟩ : ∃ wu : World, wu = wr := ⟨_, rfl⟩
            have HU := Lib.hid (And.intro (HV.out.1.below hbw.out) (And.intro (HV.out.2.1.below hbw.out) (HV.out.2.2.1.below hbw.out)))
            clear hbw HV
            have c2 := blk_cell HU.out.1.2.1 2 rfl
            by_cases hz : S.length = 0 ∨ ds.length = 1
            · have HB := Lib.hid HU.out.1.1
              have HZ := Lib.hid hz
              clear hz
              rcases HZ.out with hz | hz
              · have : S = [] := List.eq_nil_of_length_eq_zero hz
                subst this
                clear hz
                go_wp2_with (first | (go_at_call 15; refine (awake_any _).mono ?_; rintro e v7 ⟨rfl, hb⟩; have HM2 := Lib.hid (below_self HB.out hb); clear hb))
                go_ret
                exact ⟨rfl, HM2.out⟩
              · by_cases hs0 : S.length = 0
                · have : S = [] := List.eq_nil_of_length_eq_zero hs0
                  subst this
                  clear hz hs0
                  go_wp2_with (first | (go_at_call 15; refine (awake_any _).mono ?_; rintro e v7 ⟨rfl, hb⟩; have HM2 := Lib.hid (below_self HB.out hb); clear hb))
                  go_ret
                  exact ⟨rfl, HM2.out⟩
                · have g1 : ((S.length : Int) == 0) = false := by simp; intro e; rw [e] at hs0; exact hs0 rfl
                  have g2 : ((ds.length : Int) == 1) = true := by simp; omega
                  clear hz hs0
                  go_wp2_with (first | (go_at_call 15; refine (awake_any _).mono ?_; rintro e v7 ⟨rfl, hb⟩; have HM2 := Lib.hid (below_self HB.out hb); clear hb))
                  go_ret
                  exact ⟨rfl, HM2.out⟩
            · have g1 : ((S.length : Int) == 0) = false := by simp; intro e; rw [e] at hz; simp at hz
              have g2 : ((ds.length : Int) == 1) = false := by simp; omega
              have HZ : Hid (1 ≤ S.length ∧ 2 ≤ ds.length ∧ S.length ≤ ds.length ∧ ds.length ≤ 20) := by
                have := HDT.out.1
                have := HF.out.2.2.1
                have : S.length ≠ 0 := fun h => hz (.inl h)
                have : ds.length ≠ 1 := fun h => hz (.inr h)
                show _ ∧ _ ∧ _ ∧ _
                omega
              clear hz
              have hwh := HWH.out
              go_upto_region 24 with (fail)
              clear g1 g2
              obtain ⟨hwh1, hwh2⟩ := hwh
              obtain ⟨hz1, hz2, hz3, hz4⟩ := HZ.out
              obtain ⟨D, hD⟩ : ∃ D : Nat, D + 1 = ds.length := ⟨ds.length - 1, by omega⟩
              have HDD := Lib.hid hD
              have ed : IntKind.i64.wrap ((ds.length : Int) - 1) = (D : Int) := by rw [IntWalk.i64_in _ (by omega)]; omega
              have hD1 : 1 ≤ D := by omega
              have hD2 : D ≤ 20 := by omega
              clear hD
              have HKEY : Hid (∀ m : Nat, 1 ≤ m → m ≤ 20 → ∃ k : Nat, wrap64 (1 + which % (m : Int)) = (k : Int) ∧ 1 ≤ k ∧ k ≤ m) := fun m h1 h2 => by
                have g1 := Int.emod_nonneg which (b := (m : Int)) (by omega)
                have g2 := Int.emod_lt_of_pos which (b := (m : Int)) (by omega)
                exact ⟨(1 + which % (m : Int)).toNat, by rw [wrap_small (by omega)]; omega, by omega, by omega⟩
              go_cut [19] from 165 to 175 (fun s wx => wx = wu ∧ ∃ k : Nat, s = .int .i64 k ∧ 1 ≤ k ∧ k ≤ S.length ∧ k < ds.length)
              case first =>
                by_cases hm : D < S.length
                · go_wp2_with (fail)
                  go_meet
                  obtain ⟨k, e, h1, h2⟩ := HKEY.out D hD1 hD2
                  exact ⟨rfl, k, congrArg (Value.int .i64) e, h1, by omega, by have := HDD.out; omega⟩
                · go_wp2_with (fail)
                  go_meet
                  obtain ⟨k, e, h1, h2⟩ := HKEY.out S.length hz1 (by omega)
                  exact ⟨rfl, k, congrArg (Value.int .i64) e, h1, by omega, by have := HDD.out; omega⟩
              case rest =>
                obtain ⟨rfl, k, rfl, hk1, hk2, hk3⟩ := hcut
                obtain ⟨wu, rfl⟩ : ∃ wu : World, wu = wc := ⟨_, rfl⟩
                have b1 : (0 : Int) ≤ (k : Int) := by omega
                have b2 : (k : Int) ≤ (ds.length : Int) := by omega
                clear ed hD1 hD2 HKEY HDD hwh1 hwh2 c2
                obtain ⟨q, hq⟩ : ∃ q, k = q + 1 := ⟨k - 1, by omega⟩
                have HQ := Lib.hid hq
                have e9 : IntKind.i64.wrap ((k : Int) - 1) = (q : Int) := by rw [IntWalk.i64_in _ (by omega)]; omega
                have hql : q < S.length := by omega
                clear hq
                obtain ⟨bS, oS, rfl, hbS, hcS⟩ := HU.out.2.2 (by omega)
                obtain ⟨b, off, rfl, hbs, hc⟩ := HU.out.1.2.2 (by omega)
                have dS := hcS q hql
                obtain ⟨x, hx⟩ : ∃ x, S[q]?.getD 0 = x := ⟨_, rfl⟩
                rw [hx] at dS
                have HXX := Lib.hid hx
                clear hx hcS hc
                have c1 := blk_cell HU.out.1.2.1 1 rfl
                have c2 := blk_cell HU.out.1.2.1 2 rfl
                have hcp := HCP.out
                have hck : ¬ cp = k := by omega
                have b3 : (ds.length : Int) ≤ (cp : Int) := by omega
                have b5 : (k : Int) ≤ (cp : Int) := by omega
                have b6 : (0 : Int) ≤ (0 : Int) := Int.le_refl 0
                go_upto_region 25 with (fail)
                go_region_held3 (fun w' => w'.cell? ⟨bS, oS + q, none⟩ = some (.int .i64 x) ∧ w'.cell? ⟨w2.heap.size, 1, none⟩ = some (.int .i64 store) ∧ w'.cell? ⟨w2.heap.size, 2, none⟩ = some (.slice (some ⟨b, off, none⟩) ds.length cp)) (go_keep) (fail)
                clear c1 c2 dS hck
                have hlt7 : w2.heap.size < wu.heap.size := lt_of_block HU.out.1.2.1
                have HL7 : Hid (Below wu.heap.size wu ((wu.alloc (.cells #[.int .i64 x, .int .i64 store, .slice (some ⟨b, off + k * 6, none⟩) (ds.length - k) (cp - k)] 60)).drew) ∧ ((wu.alloc (.cells #[.int .i64 x, .int .i64 store, .slice (some ⟨b, off + k * 6, none⟩) (ds.length - k) (cp - k)] 60)).drew).heap[wu.heap.size]? = some (.cells #[.int .i64 x, .int .i64 store, .slice (some ⟨b, off + k * 6, none⟩) (ds.length - k) (cp - k)] 60 (0, 0))) := ⟨((Below.refl _ _).alloc (Nat.le_refl _) _).drew, heap_alloc_new wu _⟩
                generalize (wu.alloc (.cells #[.int .i64 x, .int .i64 store, .slice (some ⟨b, off + k * 6, none⟩) (ds.length - k) (cp - k)] 60)).drew = W7 at HL7 ⊢
                have HU7 := Lib.hid (And.intro (HU.out.1.below HL7.out.1) (And.intro (HU.out.2.1.below HL7.out.1) (HU.out.2.2.below HL7.out.1)))
                obtain ⟨bN, oN, rfl, hbN, _⟩ := HU.out.2.1.n (by have := HSK.out.1.1; omega)
                obtain ⟨bM, oM, rfl, hbM, _⟩ := HU.out.2.1.m (by have := HSK.out.1.2.1; omega)
                obtain ⟨bL, oL, rfl, hbL, _⟩ := HU.out.2.1.l (by have := HSK.out.1.2.2; omega)
                have hpt := parted stock store N M L ds.length k ⟨hk1, by omega⟩ (by rw [HSM.out]; exact hk2)
                rw [HSM.out, show k - 1 = q from by have := HQ.out; omega, HXX.out] at hpt
                have hxb : 0 ≤ x ∧ x ≤ store := by rw [← HXX.out]; exact HDT.out.2 q hql
                have HCR : Hid (∀ W, Below W7.heap.size W7 W → Calls Try.prog 56 #[.agg #[.int .i64 x, .int .i64 store, .slice (some ⟨b, off + k * 6, none⟩) (ds.length - k) (cp - k)], tv (some ⟨bN, oN + k, none⟩) (ds.length - k) (cn - k) (some ⟨bM, oM + k, none⟩) (ds.length - k) (cm - k) (some ⟨bL, oL + k, none⟩) (ds.length - k) (cl - k)] W fun e w' => ∃ c m d, e = .returned (.tuple #[.slice c m d, .int .i64 0]) ∧ m = (S.drop k).length ∧ IntSl w' c (S.drop k) ∧ Below W.heap.size W w') := fun W hW => by
                  have HC := Stocks_any x store (some ⟨b, off + k * 6, none⟩) (ds.drop k) (cp - k) (some ⟨bN, oN + k, none⟩) (N.drop k) (cn - k) (some ⟨bM, oM + k, none⟩) (M.drop k) (cm - k) (some ⟨bL, oL + k, none⟩) (L.drop k) (cl - k) W ((HU7.out.1.2.2.from hk3).below hW) ((HU7.out.2.1.n.drop k).below hW) ((HU7.out.2.1.m.drop k).below hW) ((HU7.out.2.1.l.drop k).below hW) (win_drop HW.out hxb hk3) (sky_drop HSK.out k)
                  rw [List.length_drop, hpt.2.2.1] at HC
                  exact HC.mono fun e w' h => by
                    obtain ⟨c, d, e1, h1, h2⟩ := h
                    exact ⟨c, _, d, e1, rfl, h1.1, h2⟩
                have HPT := Lib.hid hpt
                clear hpt
                have hc1 : ds.length ≤ cn ∧ ds.length ≤ cm ∧ ds.length ≤ cl := HCW.out
                obtain ⟨hcn, hcm, hcl⟩ := hc1
                have hkn : ¬ cn = k := by omega
                have hkm : ¬ cm = k := by omega
                have hkl : ¬ cl = k := by omega
                have c0 := blk_cell HL7.out.2 0 rfl
                have c1 := blk_cell HL7.out.2 1 rfl
                have c2 := blk_cell HL7.out.2 2 rfl
                have t0 := blk_cell HU7.out.2.1.tb 0 rfl
                have t1 := blk_cell HU7.out.2.1.tb 1 rfl
                have t2 := blk_cell HU7.out.2.1.tb 2 rfl
                go_upto_region 26 with (fail)
                go_region_held3 (fun w' => (w'.cell? ⟨wu.heap.size, 0, none⟩ = some (.int .i64 x) ∧ w'.cell? ⟨wu.heap.size, 1, none⟩ = some (.int .i64 store) ∧ w'.cell? ⟨wu.heap.size, 2, none⟩ = some (.slice (some ⟨b, off + k * 6, none⟩) (ds.length - k) (cp - k))) ∧ w'.cell? ⟨B, 0, none⟩ = some (.slice (some ⟨bN, oN, none⟩) ds.length cn) ∧ w'.cell? ⟨B, 1, none⟩ = some (.slice (some ⟨bM, oM, none⟩) ds.length cm) ∧ w'.cell? ⟨B, 2, none⟩ = some (.slice (some ⟨bL, oL, none⟩) ds.length cl)) (go_keep)
                  ((go_at_call 56; refine (HCR.out _ ((Below.refl _ _).drew)).mono ?_; rintro e W8 ⟨rb, rm, rc, rfl, hrm, iR, hb⟩; have HB8 := Lib.hid (And.intro (below_self ((Below.refl W7.heap.size W7).drew) hb) iR); have HRM := Lib.hid hrm; clear hb iR hrm c0 c1 c2 t0 t1 t2; have HU8 := Lib.hid (And.intro (HU7.out.1.below HB8.out.1) (And.intro (HU7.out.2.1.below HB8.out.1) (HU7.out.2.2.below HB8.out.1))); have HL8 := Lib.hid (blk_below HL7.out.2 HB8.out.1);have c0 := blk_cell HL8.out 0 rfl; have c1 := blk_cell HL8.out 1 rfl; have c2 := blk_cell HL8.out 2 rfl; have t0 := blk_cell HU8.out.2.1.tb 0 rfl; have t1 := blk_cell HU8.out.2.1.tb 1 rfl; have t2 := blk_cell HU8.out.2.1.tb 2 rfl))
                clear c0 c1 c2 t0 t1 t2 hkn hkm hkl hcn hcm hcl HCR
                go_upto_region 27 with (fail)
                go_cut [215] from 206 to 215 (fun s wx => s = .bool false ∧ Below W8.heap.size W8 wx)
                case first => as_aux_lemma =>
                  have HEQ : Hid (∀ (A : Option Addr) (l2 c2 : Nat), IntSl W8 A (S.drop k) → l2 = (S.drop k).length → Calls Try.prog 23 #[.slice rb rm rc, .slice A l2 c2] W8 fun e w' => e = .returned (.bool true) ∧ Below W8.heap.size W8 w') := fun A l2 c2 hA hl2 => by
                    rw [hl2, HRM.out]
                    have h := equal_int rb (S.drop k) rc A (S.drop k) c2 W8 HB8.out.2 hA (by simp; omega)
                    simpa using h
                  have hsc := HSC.out
                  have b4 : (k : Int) ≤ (S.length : Int) := by omega
                  go_wp2_with (fail)
                  all_goals (
                    (refine (HEQ.out _ _ _ (by first | exact HU8.out.2.2.drop k | (intro h; exfalso; simp at h; omega)) (by first | (simp; done) | (simp; omega))).mono ?_)
                    rintro e W9 ⟨rfl, hb⟩
                    have HB9 := Lib.hid hb
                    clear hb
                    go_wp2_with (fail)
                    first
                      | (go_meet; exact ⟨rfl, HB9.out⟩)
                      | (have hh : sc = k := by assumption
                         subst hh
                         go_meet
                         exact ⟨rfl, HB9.out⟩))
                case rest =>
                  obtain ⟨rfl, hbc⟩ := hcut
                  obtain ⟨W9, rfl⟩ : ∃ W : World, W = wc := ⟨_, rfl⟩
                  have HU9 := Lib.hid (HU8.out.1.below hbc)
                  have HL9 := Lib.hid (blk_below HL8.out hbc)
                  have hpf := parted_first HW.out ⟨hk1, hk3⟩
                  clear hbc
                  rcases hpf with ⟨y, f, hA1, f', hA2⟩ | ⟨f, hB1, hB2, s, hs, hsb, y, f2, f3, ee, hB3, hB4⟩
                  · as_aux_lemma =>
                    have HCO : Hid (∀ W, Below W9.heap.size W9 W → Calls Try.prog 35 #[.agg #[.int .i64 stock, .int .i64 store, .slice (some ⟨b, off, none⟩) k cp]] W fun e w' => e = .returned (.tuple #[.int .i64 y, .int .i64 0]) ∧ Below W.heap.size W w') := fun W hW => by
                      have HC := First_any stock store (some ⟨b, off, none⟩) (ds.take k) cp W ((HU9.out.2.2.upto).below hW) (by simp; omega)
                      rw [hA1, List.length_take, Nat.min_eq_left (by omega)] at HC
                      exact HC
                    have HA2 := Lib.hid hA2
                    clear hA1 hA2
                    have c0 := blk_cell HU9.out.2.1 0 rfl
                    have c1 := blk_cell HU9.out.2.1 1 rfl
                    have c2 := blk_cell HU9.out.2.1 2 rfl
                    go_wp2_with (fail)
                    clear c0 c1 c2
                    have HC := First_any stock store (some ⟨b, off, none⟩) ds cp W9 HU9.out.2.2 HL.out
                    rw [HA2.out] at HC
                    refine HC.mono ?_
                    rintro e W10 ⟨rfl, hb⟩
                    have HB10 := Lib.hid hb
                    have HU10 := Lib.hid (HU9.out.below hb)
                    clear hb HC
                    have c0 := blk_cell HU10.out.2.1 0 rfl
                    have c1 := blk_cell HU10.out.2.1 1 rfl
                    have c2 := blk_cell HU10.out.2.1 2 rfl
                    go_upto_region 30 with (fail)
                    go_region_held3 (fun w' => w'.cell? ⟨w2.heap.size, 0, none⟩ = some (.int .i64 stock) ∧ w'.cell? ⟨w2.heap.size, 1, none⟩ = some (.int .i64 store) ∧ w'.cell? ⟨w2.heap.size, 2, none⟩ = some (.slice (some ⟨b, off, none⟩) ds.length cp)) (go_keep)
                      ((go_at_call 35; refine (HCO.out _ (below_self HB10.out ((Below.refl _ _).drew))).mono ?_; rintro e W11 ⟨rfl, hb⟩; have HK11 := Lib.hid (HU10.out.below (below_self ((Below.refl W10.heap.size W10).drew) hb)); clear hb c0 c1 c2; have c0 := blk_cell HK11.out.2.1 0 rfl; have c1 := blk_cell HK11.out.2.1 1 rfl; have c2 := blk_cell HK11.out.2.1 2 rfl))
                    all_goals (
                      clear c0 c1 c2
                      have HBB := Lib.hid HK11.out.1
                      go_wp2_with (first | (go_at_call 15; refine (awake_any _).mono ?_; rintro e v7 ⟨rfl, hb⟩; have HM2 := Lib.hid (below_self HBB.out hb); clear hb))
                      go_ret
                      exact ⟨rfl, HM2.out⟩)
                  · as_aux_lemma =>
                    have hz : ∃ z, failR stock store ds = (z, f3, ee) ∧ (ee = 6 ∨ (ee = 0 ∧ z = y + k)) := by
                      rcases hB4 with ⟨h1, h2⟩ | ⟨h1, h2⟩
                      · exact ⟨_, by rw [h2, h1], .inl h1⟩
                      · exact ⟨_, by rw [h2, h1], .inr ⟨h1, rfl⟩⟩
                    obtain ⟨z, hz1, hz2⟩ := hz
                    have HZZ := Lib.hid (And.intro hz1 hz2)
                    have HSB := Lib.hid (And.intro hsb hB3)
                    have HYB : Hid (ee = 0 → 0 ≤ y ∧ y ≤ 60) := fun h => by
                      subst h
                      have := fail_small hB3
                      rw [List.length_drop] at this
                      have := HF.out.2.2.1
                      omega
                    have HCO : Hid (∀ W, Below W9.heap.size W9 W → Calls Try.prog 35 #[.agg #[.int .i64 stock, .int .i64 store, .slice (some ⟨b, off, none⟩) k cp]] W fun e w' => e = .returned (.tuple #[.int .i64 0, .int .i64 6]) ∧ Below W.heap.size W w') := fun W hW => by
                      have HC := First_any stock store (some ⟨b, off, none⟩) (ds.take k) cp W ((HU9.out.2.2.upto).below hW) (by simp; omega)
                      rw [hB1, List.length_take, Nat.min_eq_left (by omega)] at HC
                      exact HC
                    obtain ⟨RL, hRL⟩ : ∃ RL, rangesL stock store ds = RL := ⟨_, rfl⟩
                    rw [hRL] at hB2 hs
                    have HRL := Lib.hid hRL
                    have HS := Lib.hid hs
                    clear hB1 hB3 hB4 hz1 hz2 hsb hRL hs
                    have c0 := blk_cell HU9.out.2.1 0 rfl
                    have c1 := blk_cell HU9.out.2.1 1 rfl
                    have c2 := blk_cell HU9.out.2.1 2 rfl
                    go_wp2_with (fail)
                    clear c0 c1 c2
                    have HC := First_any stock store (some ⟨b, off, none⟩) ds cp W9 HU9.out.2.2 HL.out
                    rw [HZZ.out.1] at HC
                    refine HC.mono ?_
                    rintro e W10 ⟨rfl, hb⟩
                    have HB10 := Lib.hid hb
                    have HU10 := Lib.hid (HU9.out.below hb)
                    have HL10 := Lib.hid (blk_below HL9.out hb)
                    clear hb HC
                    have c0 := blk_cell HU10.out.2.1 0 rfl
                    have c1 := blk_cell HU10.out.2.1 1 rfl
                    have c2 := blk_cell HU10.out.2.1 2 rfl
                    go_upto_region 30 with (fail)
                    go_region_held3 (fun w' => w'.cell? ⟨w2.heap.size, 0, none⟩ = some (.int .i64 stock) ∧ w'.cell? ⟨w2.heap.size, 1, none⟩ = some (.int .i64 store) ∧ w'.cell? ⟨w2.heap.size, 2, none⟩ = some (.slice (some ⟨b, off, none⟩) ds.length cp)) (go_keep)
                      ((go_at_call 35; refine (HCO.out _ (below_self HB10.out ((Below.refl _ _).drew))).mono ?_; rintro e W11 ⟨rfl, hb⟩; have HB11 := Lib.hid (below_self ((Below.refl W10.heap.size W10).drew) hb); have HK11 := Lib.hid (HU10.out.below HB11.out); clear hb c0 c1 c2; have c0 := blk_cell HK11.out.2.1 0 rfl; have c1 := blk_cell HK11.out.2.1 1 rfl; have c2 := blk_cell HK11.out.2.1 2 rfl))
                    have HL11 := Lib.hid (blk_below HL10.out HB11.out)
                    go_wp2_with (fail)
                    clear c0 c1 c2
                    have HC := ranges_any stock store (some ⟨b, off, none⟩) ds cp W11 HK11.out.2.2 HL.out
                    rw [rangesR, if_pos HW.out, HRL.out] at HC
                    refine HC.mono ?_
                    rintro e W12 ⟨ar, rcap, rfl, iR, hb⟩
                    have HK12 := Lib.hid (HK11.out.below hb)
                    have HL12 := Lib.hid (blk_below HL11.out hb)
                    have hqr : q < RL.length := by have := HQ.out; omega
                    obtain ⟨br, oR, rfl, hbr, hcr⟩ := iR (Nat.lt_of_le_of_lt (Nat.zero_le q) hqr)
                    have d0 : W12.cell? ⟨br, oR + q * 2, none⟩ = some (.int .i64 s.lo) := hcr q s 0 _ (by have h := HS.out; rw [show k - 1 = q from by have := HQ.out; omega] at h; exact h) rfl
                    have gk : decide (RL.length < k) = false := decide_eq_false (by omega)
                    have l0 := blk_cell HL12.out 0 rfl
                    have m0 := blk_free (j := 0) HL12.out
                    clear hb HC iR hcr
                    go_upto_region 37 with (fail)
                    clear l0 m0 d0 gk
                    have HL13 := Lib.hid (blk_setCell (j := 0) (u := .int .i64 s.lo) HL12.out)
                    have HSL : Hid (Sl 6 Dy.cells (W12.setCell ⟨wu.heap.size, 0, none⟩ (.int .i64 s.lo)) (some ⟨b, off + k * 6, none⟩) (ds.drop k)) := sl_set (HK12.out.2.2.from hk3) (fun p hp => by cases hp; exact Nat.ne_of_lt hbs)
                    have HBW : Hid (Below w.heap.size w (W12.setCell ⟨wu.heap.size, 0, none⟩ (.int .i64 s.lo))) := HK12.out.1.setCell (p := ⟨wu.heap.size, 0, none⟩) HU.out.1.1.size _
                    generalize W12.setCell ⟨wu.heap.size, 0, none⟩ (.int .i64 s.lo) = W13 at HL13 HSL HBW ⊢
                    have c0 := blk_cell HL13.out 0 rfl
                    have c1 := blk_cell HL13.out 1 rfl
                    have c2 := blk_cell HL13.out 2 rfl
                    go_wp2_with (fail)
                    clear c0 c1 c2
                    have HC := First_any s.lo store (some ⟨b, off + k * 6, none⟩) (ds.drop k) (cp - k) W13 HSL.out (by simp; omega)
                    rw [HSB.out.2, List.length_drop] at HC
                    refine HC.mono ?_
                    rintro e W14 ⟨rfl, hb⟩
                    have HBB := Lib.hid (below_self HBW.out hb)
                    clear hb HC
                    rcases HZZ.out.2 with rfl | ⟨rfl, rfl⟩
                    · go_wp2_with (first | (go_at_call 15; refine (awake_any _).mono ?_; rintro e v7 ⟨rfl, hb⟩; have HM2 := Lib.hid (below_self HBB.out hb); clear hb))
                      go_ret
                      exact ⟨rfl, HM2.out⟩
                    · have hy := HYB.out rfl
                      have e4 : IntKind.i64.wrap (y + (k : Int)) = y + k := IntWalk.i64_in _ (by omega)
                      clear hy
                      go_wp2_with (first | (go_at_call 15; refine (awake_any _).mono ?_; rintro e v7 ⟨rfl, hb⟩; have HM2 := Lib.hid (below_self HBB.out hb); clear hb))
                      go_ret
                      exact ⟨rfl, HM2.out⟩
end Go.Proofs.Ytpkegiekpnaejaa
